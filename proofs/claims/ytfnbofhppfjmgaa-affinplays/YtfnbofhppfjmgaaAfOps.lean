/-
  Package affin: Find, Forget, Len, Bind.
-/
import Derived.Test.YtfnbofhppfjmgaaAfUse
namespace Go.Proofs.Ytfnbofhppfjmgaa
open Go.RowKit Go.Maps
set_option linter.unusedVariables false
set_option maxRecDepth 1000000

section
variable {W W1 W2 : World} {B room : Nat} {keep T T1 T2 : Int} {M : Nat} {L L1 L2 : List Bd}
theorem TbO.trans (h : TbO W B room keep M T1 L1 W1) (k : TbO W1 B room keep M T2 L2 W2) : TbO W B room keep M T2 L2 W2 := ⟨k.1, h.2.trans k.2 fun x hx => .inl hx⟩
theorem TbO.below (h : TbO W B room keep M T1 L1 W1) (k : Below W1.heap.size W1 W2) : TbO W B room keep M T1 L1 W2 := ⟨h.1.below k, h.2.below k⟩
theorem TbO.of (h : TbAt W B room keep T M L) (k : Below W.heap.size W W1) : TbO W B room keep M T L W1 := ⟨h.below k, Fb.of k⟩
end
theorem tlen_any {W : World} {B room : Nat} {keep T : Int} {M : Nat} {L : List Bd} (h : TbAt W B room keep T M L) (now : Int) :
    Calls Try.prog 16 #[.pointer (some ⟨B, 0, none⟩), .int .i64 now] W fun e w' => e = .returned (.int .i64 (endL (timeZ T now) L).length) ∧ Hid (TbO W B room keep M (timeZ T now) (endL (timeZ T now) L) w') := by
  have hM := tmade_yes h.obj h.rm.1
  have hG := goOn_any h now
  clear h
  generalize timeZ T now = T1 at *
  generalize endL T1 L = L1 at *
  go_enter Try.func16, Try.ntmps16
  go_wp2_with fail
  with_reducible refine hM.mono ?_
  rintro r w1 ⟨rfl, rfl⟩
  go_wp2_with fail
  with_reducible refine hG.mono ?_
  rintro r w2 ⟨rfl, H2⟩
  have c3 := H2.out.1.obj.cells.2.2.2
  have hl := fun ty => H2.out.1.map.len ty
  clear hM hG
  go_wp2_with fail
  go_ret
  exact ⟨rfl, H2⟩
set_option maxHeartbeats 4000000 in
theorem tforget_any {W : World} {B room : Nat} {keep T : Int} {M : Nat} {L : List Bd} (h : TbAt W B room keep T M L) (now x : Int) :
    Calls Try.prog 12 #[.pointer (some ⟨B, 0, none⟩), .int .i64 now, .int .u64 x] W fun e w' => e = .returned (.int .i64 (((endL (timeZ T now) L).length : Int) - (forB (endL (timeZ T now) L) x).length)) ∧ Hid (TbO W B room keep M (timeZ T now) (forB (endL (timeZ T now) L) x) w') := by
  obtain ⟨w1, hw1⟩ : ∃ w1, w1 = W.alloc (.cells #[.int .u64 x] 34) := ⟨_, rfl⟩
  have hb1 : Below W.heap.size W w1 := by rw [hw1]; exact (Below.refl _ _).alloc (Nat.le_refl _) _
  have hn1 : w1.heap[W.heap.size]? = some (.cells #[.int .u64 x] 34 (0, 0)) := by rw [hw1]; exact heap_alloc_new W _
  have h1 := h.below hb1
  have hM := tmade_yes h1.obj h1.rm.1
  have hG := goOn_any h1 now
  obtain ⟨sz, hsz⟩ : ∃ sz, W.heap.size = sz := ⟨_, rfl⟩
  have hF : ∀ k, tbF B M k → k < W.heap.size := fun k hk => h.lts hk
  generalize timeZ T now = T1 at *
  generalize endL T1 L = L1 at *
  have HX : Hid (∀ w2, TbO w1 B room keep M T1 L1 w2 → Calls Try.prog 23 #[.pointer (some ⟨B, 0, none⟩), .func (.func 24) #[] #[.pointer (some ⟨sz, 0, none⟩)]] w2 fun e w' => e = .returned (.int .i64 ((L1.length : Int) - (forB L1 x).length)) ∧ Hid (TbO W B room keep M T1 (forB L1 x) w')) := fun w2 h2 => by
    have hn2 : w2.heap[W.heap.size]? = some (.cells #[.int .u64 x] 34 (0, 0)) := h2.2.one hn1 (fun hk => Nat.lt_irrefl _ (hF _ hk))
    have hcut : (L1.filter fun b => !decide (b.rep = x)) = forB L1 x := List.filter_congr fun b _ => by by_cases e : b.rep = x <;> simp [e]
    have hne := h2.1.obj.ne h2.1.map
    have hLG := letGo_any h2.1.obj h2.1.map (Nat.le_trans h2.1.len h2.1.rm.2) 24 W.heap.size (fun b => decide (b.rep = x)) (lt_of_block hn2) (by have := hF M (.inr rfl); omega) (enters_of Try.func24 (by kernel_rfl) rfl)
      (fun W' b _ hgb => theirs_any (by rw [cell_of_row _ _ _ _ _ _ (hgb.trans hn2)]; rfl))
    rw [hcut, hsz] at hLG
    refine hLG.mono fun e w3 ⟨he, H⟩ => ⟨he, ?_, ?_⟩
    · exact h2.1.less (h2.1.obj.same (H.out.2.block _ h2.1.obj.lt hne)) H.out.1 ⟨Int.le_refl _, h2.1.tm.2⟩ (fun b hb => ⟨(List.mem_filter.1 hb).1, (h2.1.ends b (List.mem_filter.1 hb).1).1⟩) (List.length_filter_le _ _)
    · exact ((Fb.of hb1).trans h2.2 fun x hx => .inl hx).trans H.out.2 fun x hx => .inl (.inr hx)
  clear h h1 hb1 hn1 hF
  go_enter Try.func12, Try.ntmps12
  go_wp2_with fail
  rw [← hw1]
  clear hw1
  with_reducible refine hM.mono ?_
  rintro r w2 ⟨rfl, rfl⟩
  go_wp2_with fail
  with_reducible refine hG.mono ?_
  rintro r w3 ⟨rfl, H3⟩
  have hLG := HX.out _ H3.out
  clear hM hG HX H3
  go_wp2_with fail
  with_reducible refine hLG.mono ?_
  rintro r w4 ⟨rfl, H4⟩
  go_wp2_with fail
  go_ret
  exact ⟨rfl, H4⟩
set_option maxHeartbeats 4000000 in
theorem tfind_any {W : World} {B room : Nat} {keep T : Int} {M : Nat} {L : List Bd} (h : TbAt W B room keep T M L) (now : Int) {s : Int} (hs : isU s) :
    Calls Try.prog 10 #[.pointer (some ⟨B, 0, none⟩), .int .i64 now, .int .u64 s] W fun e w' => e = .returned (.tuple #[.int .u64 ((lk (endL (timeZ T now) L) s).getD (0, 0)).1, .bool (lk (endL (timeZ T now) L) s).isSome]) ∧ Hid (TbO W B room keep M (timeZ T now) (useB (endL (timeZ T now) L) s (timeZ T now + keep)) w') := by
  have hM := tmade_yes h.obj h.rm.1
  have hG := goOn_any h now
  clear h
  generalize timeZ T now = T1 at *
  generalize endL T1 L = L1 at *
  have HLk := hid fun (w : World) (h : TbO W B room keep M T1 L1 w) => h.1.map.look hs
  cases hl : lk L1 s with
  | none =>
    rw [hl] at HLk
    rw [useB_not _ hl]
    have HE : Hid (∀ (w : World) (o : Obj), TbO W B room keep M T1 L1 w → TbO W B room keep M T1 L1 (w.alloc o)) := fun w o h => h.below ((Below.refl _ _).alloc (Nat.le_refl _) _)
    simp only [Option.getD_none, Option.isSome_none] at HLk ⊢
    unfold bdV at HLk
    clear hl
    go_enter Try.func10, Try.ntmps10
    go_wp2_with fail
    with_reducible refine hM.mono ?_
    rintro r w1 ⟨rfl, rfl⟩
    go_wp2_with fail
    with_reducible refine hG.mono ?_
    rintro r w2 ⟨rfl, H2⟩
    have c3 := H2.out.1.obj.cells.2.2.2
    have hlk := HLk.out _ H2.out
    clear hM hG HLk
    go_wp2_with fail
    go_ret2
    exact ⟨rfl, HE.out _ _ H2.out⟩
  | some p =>
    obtain ⟨r, e⟩ := p
    rw [hl] at HLk
    simp only [Option.getD_some, Option.isSome_some] at HLk ⊢
    unfold bdV at HLk
    have HU : Hid (∀ w, TbO W B room keep M T1 L1 w → Calls Try.prog 20 #[.pointer (some ⟨B, 0, none⟩), .int .u64 s, .int .u64 r] w fun e w' => e = .returned (.tuple #[]) ∧ Hid (TbO W B room keep M T1 (useB L1 s (T1 + keep)) w' ∧ Fb (tbF B M) w w')) := fun w hw => by
      obtain ⟨b, hb, e1, e2⟩ := lk_some hl
      have hr : isU r := by
        have := hw.1.reps b hb
        cases e2
        exact this
      have hst := storeP_rep hw.1.map.nodup hw.1.map.oks (n := ⟨s, r, T1 + keep⟩) (by rw [show (⟨s, r, T1 + keep⟩ : Bd).ses = s from rfl, hl]; simp)
      rw [useB_rep hw.1.map.nodup _ hl] at hst
      exact (tuse_any hw.1 hs hr hst (by rw [useB_len]; exact hw.1.len)).mono fun e w' ⟨h1, h2⟩ => ⟨h1, hw.trans h2.out, h2.out.2⟩
    have HA : Hid (∀ (w : World) (o : Obj), TbO W B room keep M T1 L1 w → TbO W B room keep M T1 L1 (w.alloc o)) := fun w o h => h.below ((Below.refl _ _).alloc (Nat.le_refl _) _)
    clear hl
    go_enter Try.func10, Try.ntmps10
    go_wp2_with fail
    with_reducible refine hM.mono ?_
    rintro q w1 ⟨rfl, rfl⟩
    go_wp2_with fail
    with_reducible refine hG.mono ?_
    rintro q w2 ⟨rfl, H2⟩
    have c3 := H2.out.1.obj.cells.2.2.2
    have hlk := HLk.out _ H2.out
    obtain ⟨w3, hw3⟩ : ∃ w3, w3 = w2.alloc (.cells #[.int .u64 r, .int .i64 e] 56) := ⟨_, rfl⟩
    have h3 := HA.out w2 (.cells #[.int .u64 r, .int .i64 e] 56) H2.out
    rw [← hw3] at h3
    have hUs := HU.out _ h3
    have hg3 : w3.heap[w2.heap.size]? = some (.cells #[.int .u64 r, .int .i64 e] 56 (0, 0)) := by rw [hw3]; exact heap_alloc_new w2 _
    have hout : ¬ tbF B M w2.heap.size := fun hk => Nat.lt_irrefl _ (H2.out.1.lts hk)
    obtain ⟨sz, hsz⟩ : ∃ sz, w2.heap.size = sz := ⟨_, rfl⟩
    rw [hsz] at hg3 hout
    clear hM hG HLk H2
    go_wp2_with fail
    rw [← hw3]
    clear hw3
    with_reducible refine hUs.mono ?_
    rintro q w4 ⟨rfl, H4⟩
    have c0 : w4.cell? ⟨sz, 0, none⟩ = some (.int .u64 r) := (cells_two (H4.out.2.one hg3 hout)).1
    clear hUs hg3 hout h3
    go_wp2_with fail
    go_ret2
    exact ⟨rfl, H4.out.1⟩
set_option maxHeartbeats 8000000 in
theorem tbind_any {W : World} {B room : Nat} {keep T : Int} {M : Nat} {L : List Bd} (h : TbAt W B room keep T M L) (now : Int) {s r : Int} (hs : isU s) (hr : isU r) :
    Calls Try.prog 14 #[.pointer (some ⟨B, 0, none⟩), .int .i64 now, .int .u64 s, .int .u64 r] W fun e w' => e = .returned (.bool true) ∧ Hid (∃ L', BindP room (endL (timeZ T now) L) ⟨s, r, timeZ T now + keep⟩ L' ∧ TbO W B room keep M (timeZ T now) L' w') := by
  have hM := tmade_yes h.obj h.rm.1
  have hG := goOn_any h now
  have hL0 : (endL (timeZ T now) L).length ≤ room := Nat.le_trans (endL_len _ _) h.len
  have hrm := h.rm
  clear h
  generalize timeZ T now = T1 at *
  generalize endL T1 L = L1 at *
  have HLk := hid fun (w : World) (h : TbO W B room keep M T1 L1 w) => h.1.map.look hs
  have HA : Hid (∀ (w : World) (o : Obj), TbO W B room keep M T1 L1 w → TbO W B room keep M T1 L1 (w.alloc o)) := fun w o h => h.below ((Below.refl _ _).alloc (Nat.le_refl _) _)
  have HD : Hid (∀ (w : World) (q : Nat), TbO W B room keep M T1 L1 w → TbO W B room keep M T1 L1 (w.drewN q)) := fun w q h => h.below ⟨rfl, rfl, rfl, Nat.le_refl _, fun _ _ => rfl⟩
  obtain ⟨nl, Hnl⟩ : ∃ nl, Hid (L1.length = nl) := ⟨_, rfl⟩
  rw [Hnl.out] at hL0
  have HLn : Hid (∀ (w : World), TbO W B room keep M T1 L1 w → ∀ ty, (Builtin.len_ #[49] ty #[.map (some M)]).run Try.prog w = .ok (.int .i64 nl) w) := fun w h ty => by rw [← Hnl.out]; exact h.1.map.len ty
  cases hl : lk L1 s with
  | some p =>
    obtain ⟨r0, e⟩ := p
    rw [hl] at HLk
    simp only [Option.getD_some, Option.isSome_some] at HLk
    unfold bdV at HLk
    have HU : Hid (∀ w, TbO W B room keep M T1 L1 w → Calls Try.prog 20 #[.pointer (some ⟨B, 0, none⟩), .int .u64 s, .int .u64 r] w fun e w' => e = .returned (.tuple #[]) ∧ Hid (∃ L', BindP room L1 ⟨s, r, T1 + keep⟩ L' ∧ TbO W B room keep M T1 L' w')) := fun w hw => by
      have hnn : lk L1 (⟨s, r, T1 + keep⟩ : Bd).ses ≠ none := by rw [show (⟨s, r, T1 + keep⟩ : Bd).ses = s from rfl, hl]; simp
      have hst := storeP_rep hw.1.map.nodup hw.1.map.oks hnn
      exact (tuse_any hw.1 hs hr hst (by rw [repB_len]; exact hw.1.len)).mono fun e w' ⟨h1, h2⟩ => ⟨h1, _, .inl ⟨hnn, rfl⟩, hw.trans h2.out⟩
    clear hl
    go_enter Try.func14, Try.ntmps14
    go_wp2_with fail
    with_reducible refine hM.mono ?_
    rintro q w1 ⟨rfl, rfl⟩
    go_wp2_with fail
    with_reducible refine hG.mono ?_
    rintro q w2 ⟨rfl, H2⟩
    have c3 := H2.out.1.obj.cells.2.2.2
    have hlk := HLk.out _ H2.out
    obtain ⟨w3, hw3⟩ : ∃ w3, w3 = w2.alloc (.cells #[.int .u64 r0, .int .i64 e] 56) := ⟨_, rfl⟩
    have h3 := HA.out w2 (.cells #[.int .u64 r0, .int .i64 e] 56) H2.out
    rw [← hw3] at h3
    have H3 := hid h3
    clear hM hG HLk H2 h3
    go_wp2_with fail
    rw [← hw3]
    clear hw3
    go_quiet (fail)
    have hUs := HU.out _ (HD.out _ ‹Nat› H3.out)
    go_wp2_with fail
    with_reducible refine hUs.mono ?_
    rintro q w4 ⟨rfl, H4⟩
    go_wp2_with fail
    go_ret
    exact ⟨rfl, H4⟩
  | none =>
    rw [hl] at HLk
    simp only [Option.getD_none, Option.isSome_none] at HLk
    unfold bdV at HLk
    by_cases hfull : nl = room
    · have hf1 : ((nl : Int) == (room : Int)) = true := by simp; omega
      have hne0 : L1 ≠ [] := fun e => by have := Hnl.out; rw [e] at this; simp at this; omega
      have HFs : Hid (∀ w, TbO W B room keep M T1 L1 w → Calls Try.prog 25 #[.pointer (some ⟨B, 0, none⟩)] w fun e w' => ∃ s, e = .returned (.int .u64 s) ∧ Hid ((∃ b, LstB L1 b ∧ s = b.ses) ∧ TbO W B room keep M T1 L1 w')) := fun w hw => (first_any hw.1 hne0).mono fun e w' ⟨x, he, H⟩ => ⟨x, he, H.out.1, hw.below H.out.2⟩
      have HDr : Hid (∀ (w : World) (x : Int), TbO W B room keep M T1 L1 w → (∃ b, LstB L1 b ∧ x = b.ses) → ∃ w', (Builtin.delete_ #[49, 34] 0 #[.map (some M), .int .u64 x]).run Try.prog w = .ok (.tuple #[]) w' ∧ TbO W B room keep M T1 (butB L1 x) w') := fun w x hw hx => by
        obtain ⟨b, hb, rfl⟩ := hx
        obtain ⟨w', h1, h2, h3⟩ := hw.1.map.drop (hw.1.map.oks b hb.1) 0
        refine ⟨w', h1, hw.1.less (hw.1.obj.same (h3.block _ hw.1.obj.lt (hw.1.obj.ne hw.1.map))) h2 ⟨Int.le_refl _, hw.1.tm.2⟩ (fun c hc => ⟨(List.mem_filter.1 hc).1, (hw.1.ends c (List.mem_filter.1 hc).1).1⟩) (List.length_filter_le _ _), hw.2.trans h3 fun y hy => .inl (.inr hy)⟩
      have HU : Hid (∀ (w : World) (x : Int), (∃ b, LstB L1 b ∧ x = b.ses) → TbO W B room keep M T1 (butB L1 x) w → Calls Try.prog 20 #[.pointer (some ⟨B, 0, none⟩), .int .u64 s, .int .u64 r] w fun e w' => e = .returned (.tuple #[]) ∧ Hid (∃ L', BindP room L1 ⟨s, r, T1 + keep⟩ L' ∧ TbO W B room keep M T1 L' w')) := fun w x hx hw => by
        obtain ⟨b, hb, rfl⟩ := hx
        have hl2 : lk (butB L1 b.ses) (⟨s, r, T1 + keep⟩ : Bd).ses = none := lk_none.2 fun c hc => lk_none.1 hl c (List.mem_filter.1 hc).1
        have hst := storeP_app hw.1.map.nodup hw.1.map.oks (n := ⟨s, r, T1 + keep⟩) hs hl2
        have h9 := Hnl.out
        have hlen : (butB L1 b.ses).length < room := by
          have h5 : (butB L1 b.ses).length < L1.length := List.length_filter_lt_length_iff_exists.2 ⟨b, hb.1, by simp⟩
          omega
        exact (tuse_any hw.1 hs hr hst (by rw [List.length_append]; simp; omega)).mono fun e w' ⟨h1, h2⟩ => ⟨h1, _, .inr (.inr ⟨hl, by omega, b, hb, rfl⟩), hw.trans h2.out⟩
      have HC : Hid (∀ (w : World) (l : List Bd), TbO W B room keep M T1 l w → w.cell? ⟨B, 3, none⟩ = some (.map (some M))) := fun w l h => h.1.obj.cells.2.2.2
      clear hl hne0
      go_enter Try.func14, Try.ntmps14
      go_wp2_with fail
      with_reducible refine hM.mono ?_
      rintro q w1 ⟨rfl, rfl⟩
      go_wp2_with fail
      with_reducible refine hG.mono ?_
      rintro q w2 ⟨rfl, H2⟩
      have c3 := H2.out.1.obj.cells.2.2.2
      have hlk := HLk.out _ H2.out
      obtain ⟨w3, hw3⟩ : ∃ w3, w3 = w2.alloc (.cells #[.int .u64 0, .int .i64 0] 56) := ⟨_, rfl⟩
      have h3 := HA.out w2 (.cells #[.int .u64 0, .int .i64 0] 56) H2.out
      rw [← hw3] at h3
      have c0 := h3.1.obj.cells.1
      have c33 := h3.1.obj.cells.2.2.2
      have hln := fun n => HLn.out _ (HD.out _ n h3)
      have H3 := hid h3
      clear hM hG HLk H2 h3
      go_wp2_with fail
      rw [← hw3]
      clear hw3
      go_quiet (fail)
      have H4 := hid (HD.out _ ‹Nat› H3.out)
      clear c0 c33 hln H3 c3
      go_wp2_with fail
      generalize w3.drewN _ = w4 at *
      have H4d := hid (H4.out.below (Below.refl _ _).drew)
      go_region_held3 (fun W' : World => W'.cell? ⟨B, 3, none⟩ = some (.map (some M)))
        (first | (with_reducible exact HC.out _ _ H4.out) | (with_reducible exact HC.out _ _ H4d.out) | (with_reducible exact HC.out _ _ H5.out) | (with_reducible exact HC.out _ _ H6.out))
        (first
          | (go_at_call 25; (with_reducible refine (HFs.out _ H4d.out).mono ?_); rintro e w5 ⟨x, rfl, H5x⟩; have H5 := hid H5x.out.2; obtain ⟨w6, hd, h6⟩ := HDr.out _ _ H5.out H5x.out.1; have H6 := hid h6; clear h6))
      all_goals
        have hUs := HU.out _ _ H5x.out.1 H6.out
        clear H4 H4d H5 H6 H5x hd
        go_wp2_with fail
        with_reducible refine hUs.mono ?_
        rintro q w7 ⟨rfl, H7⟩
        go_wp2_with fail
        go_ret
        exact ⟨rfl, H7⟩
    · have hf1 : ((nl : Int) == (room : Int)) = false := by simp; omega
      have hf2 : ¬ (nl : Int) = (room : Int) := by omega
      have HU : Hid (∀ w, TbO W B room keep M T1 L1 w → Calls Try.prog 20 #[.pointer (some ⟨B, 0, none⟩), .int .u64 s, .int .u64 r] w fun e w' => e = .returned (.tuple #[]) ∧ Hid (∃ L', BindP room L1 ⟨s, r, T1 + keep⟩ L' ∧ TbO W B room keep M T1 L' w')) := fun w hw => by
        have hst := storeP_app hw.1.map.nodup hw.1.map.oks (n := ⟨s, r, T1 + keep⟩) hs hl
        have := Hnl.out
        exact (tuse_any hw.1 hs hr hst (by rw [List.length_append]; simp; omega)).mono fun e w' ⟨h1, h2⟩ => ⟨h1, _, .inr (.inl ⟨hl, by omega, rfl⟩), hw.trans h2.out⟩
      clear hl
      go_enter Try.func14, Try.ntmps14
      go_wp2_with fail
      with_reducible refine hM.mono ?_
      rintro q w1 ⟨rfl, rfl⟩
      go_wp2_with fail
      with_reducible refine hG.mono ?_
      rintro q w2 ⟨rfl, H2⟩
      have c3 := H2.out.1.obj.cells.2.2.2
      have hlk := HLk.out _ H2.out
      obtain ⟨w3, hw3⟩ : ∃ w3, w3 = w2.alloc (.cells #[.int .u64 0, .int .i64 0] 56) := ⟨_, rfl⟩
      have h3 := HA.out w2 (.cells #[.int .u64 0, .int .i64 0] 56) H2.out
      rw [← hw3] at h3
      have c0 := h3.1.obj.cells.1
      have c33 := h3.1.obj.cells.2.2.2
      have hln := fun n => HLn.out _ (HD.out _ n h3)
      have H3 := hid h3
      clear hM hG HLk H2 h3
      go_wp2_with fail
      rw [← hw3]
      clear hw3
      go_quiet (fail)
      have hUs := HU.out _ (HD.out _ ‹Nat› H3.out)
      go_wp2_with fail
      with_reducible refine hUs.mono ?_
      rintro q w4 ⟨rfl, H4⟩
      go_wp2_with fail
      go_ret
      exact ⟨rfl, H4⟩
end Go.Proofs.Ytfnbofhppfjmgaa
