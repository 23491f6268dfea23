/-
  Both tables side by side.
-/
import Derived.Test.YtfnbofhppfjmgaaAfRb
namespace Go.Proofs.Ytfnbofhppfjmgaa
open Go.RowKit Go.Maps
set_option linter.unusedVariables false
set_option maxRecDepth 1000000

theorem timeZ_two (T now : Int) : timeZ (timeZ T now) now = timeZ T now := by
  unfold timeZ
  by_cases h : T < now ∧ now ≤ 1099511627776
  · rw [if_pos h, if_neg (by omega)]
  · rw [if_neg h, if_neg h]
theorem TbAt.still {W : World} {B room : Nat} {keep T : Int} {M : Nat} {L : List Bd} (h : TbAt W B room keep T M L) : endL T L = L := endL_all fun b hb => (h.ends b hb).1
/-- The program's table, the document's, and a step. -/
structure PaG (w : World) (B room : Nat) (keep : Int) (M : Nat) (T : Int) (L : List Bd) (B2 : Nat) (T2 : Int) (v : Value) (L2 : List Bd) (sb : Nat) (s : Sp) (W : World) : Prop where
  af : AfS w B room keep M T L W
  rt : RtB W B2 room keep T2 v L2
  blk : W.heap[sb]? = some (.cells (SpV s) 36 (0, 0))
  apt : ∀ k, tbF B M k → ¬ rcF B2 v k
  lo2 : ∀ k, rcF B2 v k → w.heap.size ≤ k
  off1 : ¬ tbF B M sb
  off2 : ¬ rcF B2 v sb
/-- Between the steps. -/
structure PaS (w : World) (B room : Nat) (keep : Int) (M : Nat) (T : Int) (L : List Bd) (B2 : Nat) (v : Value) (W : World) : Prop where
  af : AfS w B room keep M T L W
  rt : RtB W B2 room keep T v L
  apt : ∀ k, tbF B M k → ¬ rcF B2 v k
  lo2 : ∀ k, rcF B2 v k → w.heap.size ≤ k
section
variable {w W W' : World} {B room : Nat} {keep : Int} {M : Nat} {T T' T2 T2' : Int} {L L' L2 L2' : List Bd} {B2 : Nat} {v : Value} {sb : Nat} {s : Sp}
theorem PaG.below (h : PaG w B room keep M T L B2 T2 v L2 sb s W) (hb : Below W.heap.size W W') : PaG w B room keep M T L B2 T2 v L2 sb s W' :=
  ⟨h.af.below hb, h.rt.below hb, block_bel h.blk hb, h.apt, h.lo2, h.off1, h.off2⟩
theorem PaG.left (h : PaG w B room keep M T L B2 T2 v L2 sb s W) (ho : TbO W B room keep M T' L' W') : PaG w B room keep M T' L' B2 T2 v L2 sb s W' :=
  ⟨h.af.step ho, h.rt.same fun k hk => ho.2.block k (h.rt.lts hk) fun hF => h.apt k hF hk, ho.2.one h.blk h.off1, h.apt, h.lo2, h.off1, h.off2⟩
theorem PaG.right (h : PaG w B room keep M T L B2 T2 v L2 sb s W) (ho : RtO W B2 room keep v T2' L2' W') : ∃ v', PaG w B room keep M T L B2 T2' v' L2' sb s W' := by
  obtain ⟨v', h1, h2, h3⟩ := ho
  refine ⟨v', ⟨h.af.tb.fb h2 fun k hk hr => h.apt k hk hr, h.af.lo, h.af.bel.trans (h2.to h.lo2 h.af.bel.size)⟩, h1, h2.one h.blk h.off2, fun k hk hr => ?_, fun k hk => ?_, h.off1, fun hk => ?_⟩
  · rcases hr with rfl | hr
    · exact h.apt _ hk (.inl rfl)
    · rcases h3 k hr with h5 | h5
      · exact h.apt k hk (.inr h5)
      · have := h.af.tb.lts hk; omega
  · rcases hk with rfl | hk
    · exact h.lo2 _ (.inl rfl)
    · rcases h3 k hk with h5 | h5
      · exact h.lo2 k (.inr h5)
      · exact Nat.le_trans h.af.bel.size h5
  · rcases hk with rfl | hk
    · exact h.off2 (.inl rfl)
    · rcases h3 sb hk with h5 | h5
      · exact h.off2 (.inr h5)
      · have := lt_of_block h.blk; omega
theorem PaG.cells (h : PaG w B room keep M T L B2 T2 v L2 sb s W) : W.cell? ⟨sb, 0, none⟩ = some (.int .u8 s.kd) ∧ W.cell? ⟨sb, 1, none⟩ = some (.int .i64 s.later) ∧ W.cell? ⟨sb, 2, none⟩ = some (.int .u64 s.ses) ∧ W.cell? ⟨sb, 3, none⟩ = some (.int .u64 s.rep) :=
  ⟨by rw [cell_of_row _ _ _ _ _ _ h.blk]; rfl, by rw [cell_of_row _ _ _ _ _ _ h.blk]; rfl, by rw [cell_of_row _ _ _ _ _ _ h.blk]; rfl, by rw [cell_of_row _ _ _ _ _ _ h.blk]; rfl⟩
theorem PaG.to (h : PaG w B room keep M T L B2 T v L sb s W) : PaS w B room keep M T L B2 v W := ⟨h.af, h.rt, h.apt, h.lo2⟩
theorem PaS.step (h : PaS w B room keep M T L B2 v W) (s : Sp) (hW : W' = W.alloc (.cells #[.int .u8 s.kd, .int .i64 s.later, .int .u64 s.ses, .int .u64 s.rep] 36)) : PaG w B room keep M T L B2 T v L W.heap.size s W' := by
  subst hW
  have hb : Below W.heap.size W (W.alloc (.cells #[.int .u8 s.kd, .int .i64 s.later, .int .u64 s.ses, .int .u64 s.rep] 36)) := (Below.refl _ _).alloc (Nat.le_refl _) _
  exact ⟨h.af.below hb, h.rt.below hb, heap_alloc_new W _, h.apt, h.lo2, fun hF => Nat.lt_irrefl _ (h.af.tb.lts hF), fun hF => Nat.lt_irrefl _ (h.rt.lts hF)⟩
/-- The calls of both. -/
theorem PaG.find1 (h : PaG w B room keep M T L B2 T v L sb s W) (now : Int) {x : Int} (hx : isU x) :
    Calls Try.prog 10 #[.pointer (some ⟨B, 0, none⟩), .int .i64 now, .int .u64 x] W fun e w' => e = .returned (.tuple #[.int .u64 ((lk (endL (timeZ T now) L) x).getD (0, 0)).1, .bool (lk (endL (timeZ T now) L) x).isSome]) ∧ Hid (PaG w B room keep M (timeZ T now) (useB (endL (timeZ T now) L) x (timeZ T now + keep)) B2 T v L sb s w') :=
  (tfind_any h.af.tb now hx).mono fun e w' ⟨he, H⟩ => ⟨he, h.left H.out⟩
theorem PaG.find2 (h : PaG w B room keep M T' L' B2 T v L sb s W) (hn : NdB L) (hT : 0 ≤ T ∧ T ≤ 1099511627776) (now x : Int) :
    Calls Try.prog 11 #[.pointer (some ⟨B2, 0, none⟩), .int .i64 now, .int .u64 x] W fun e w' => e = .returned (.tuple #[.int .u64 ((lk (endL (timeZ T now) L) x).getD (0, 0)).1, .bool (lk (endL (timeZ T now) L) x).isSome]) ∧ Hid (∃ v', PaG w B room keep M T' L' B2 (timeZ T now) v' (useB (endL (timeZ T now) L) x (timeZ T now + keep)) sb s w') :=
  (rfind_any h.rt hn hT h.af.tb.kp now x).mono fun e w' ⟨he, H⟩ => ⟨he, h.right H.out⟩
theorem PaG.forget1 (h : PaG w B room keep M T L B2 T v L sb s W) (now x : Int) :
    Calls Try.prog 12 #[.pointer (some ⟨B, 0, none⟩), .int .i64 now, .int .u64 x] W fun e w' => e = .returned (.int .i64 (((endL (timeZ T now) L).length : Int) - (forB (endL (timeZ T now) L) x).length)) ∧ Hid (PaG w B room keep M (timeZ T now) (forB (endL (timeZ T now) L) x) B2 T v L sb s w') :=
  (tforget_any h.af.tb now x).mono fun e w' ⟨he, H⟩ => ⟨he, h.left H.out⟩
theorem PaG.forget2 (h : PaG w B room keep M T' L' B2 T v L sb s W) (now x : Int) :
    Calls Try.prog 13 #[.pointer (some ⟨B2, 0, none⟩), .int .i64 now, .int .u64 x] W fun e w' => e = .returned (.int .i64 (((endL (timeZ T now) L).length : Int) - (forB (endL (timeZ T now) L) x).length)) ∧ Hid (∃ v', PaG w B room keep M T' L' B2 (timeZ T now) v' (forB (endL (timeZ T now) L) x) sb s w') :=
  (rforget18_any h.rt now x).mono fun e w' ⟨he, H⟩ => ⟨he, h.right H.out⟩
theorem PaG.bind1 (h : PaG w B room keep M T L B2 T v L sb s W) (now : Int) {x r : Int} (hx : isU x) (hr : isU r) :
    Calls Try.prog 14 #[.pointer (some ⟨B, 0, none⟩), .int .i64 now, .int .u64 x, .int .u64 r] W fun e w' => e = .returned (.bool true) ∧ Hid (∃ L', BindP room (endL (timeZ T now) L) ⟨x, r, timeZ T now + keep⟩ L' ∧ PaG w B room keep M (timeZ T now) L' B2 T v L sb s w') :=
  (tbind_any h.af.tb now hx hr).mono fun e w' ⟨he, H⟩ => ⟨he, by obtain ⟨L', p, o⟩ := H.out; exact ⟨L', p, h.left o⟩⟩
theorem PaG.bind2 (h : PaG w B room keep M T' L' B2 T v L sb s W) (hn : NdB L) (hT : 0 ≤ T ∧ T ≤ 1099511627776) (hl : L.length ≤ room) (now x r : Int) (hp : BindP room (endL (timeZ T now) L) ⟨x, r, timeZ T now + keep⟩ L') :
    Calls Try.prog 15 #[.pointer (some ⟨B2, 0, none⟩), .int .i64 now, .int .u64 x, .int .u64 r] W fun e w' => e = .returned (.tuple #[]) ∧ Hid (∃ v', PaG w B room keep M T' L' B2 (timeZ T now) v' L' sb s w') :=
  (rbind_any h.rt hn hT h.af.tb.kp h.af.tb.rm hl now x r).mono fun e w' ⟨he, H⟩ => ⟨he, by
    obtain ⟨L3, p, o⟩ := H.out
    obtain rfl := p.one hp
    exact h.right o⟩
theorem PaG.len1 (h : PaG w B room keep M T L B2 T2 v L2 sb s W) (now : Int) (ht : timeZ T now = T) :
    Calls Try.prog 16 #[.pointer (some ⟨B, 0, none⟩), .int .i64 now] W fun e w' => e = .returned (.int .i64 L.length) ∧ Hid (PaG w B room keep M T L B2 T2 v L2 sb s w') := by
  have hL := tlen_any h.af.tb now
  rw [ht, h.af.tb.still] at hL
  exact hL.mono fun e w' ⟨he, H⟩ => ⟨he, h.left H.out⟩
theorem PaG.now1 (h : PaG w B room keep M T L B2 T2 v L2 sb s W) :
    Calls Try.prog 17 #[.pointer (some ⟨B, 0, none⟩)] W fun e w' => e = .returned (.int .i64 T) ∧ w' = W := tnow_any h.af.tb
end
end Go.Proofs.Ytfnbofhppfjmgaa
