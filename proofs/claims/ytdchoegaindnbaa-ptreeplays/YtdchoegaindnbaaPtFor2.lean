/-
  Forget.
-/
import Derived.Test.YtdchoegaindnbaaPtRd
import Derived.Deep.RegionHeld
namespace Go.Proofs.Ytdchoegaindnbaa
open Go.RowKit Go.Maps Go.Shelf
set_option linter.unusedVariables false
set_option maxRecDepth 1000000

/-- The marks but these. -/
def butS : List Mk → List Mk → List Mk
  | L, [] => L
  | L, m :: r => butS (butN L m.nm) r
theorem butS_snoc (L : List Mk) : ∀ (pre : List Mk) (m : Mk), butS L (pre ++ [m]) = butN (butS L pre) m.nm
  | [], m => rfl
  | x :: r, m => by simp only [List.cons_append, butS]; exact butS_snoc (butN L x.nm) r m
theorem butS_mem (L : List Mk) : ∀ (pre : List Mk) (m : Mk), m ∈ butS L pre ↔ m ∈ L ∧ ∀ x ∈ pre, m.nm ≠ x.nm
  | [], m => by simp [butS]
  | x :: r, m => by
    unfold butS
    rw [butS_mem (butN L x.nm) r m]
    simp only [butN, List.mem_filter, decide_eq_true_eq, List.mem_cons, forall_eq_or_imp]
    exact ⟨fun ⟨⟨a, b⟩, c⟩ => ⟨a, b, c⟩, fun ⟨a, b, c⟩ => ⟨⟨a, b⟩, c⟩⟩
theorem butS_sub (L : List Mk) : ∀ pre : List Mk, (butS L pre).Sublist L
  | [] => List.Sublist.refl _
  | x :: r => (butS_sub (butN L x.nm) r).trans List.filter_sublist
/-- The marks of the others. -/
def forL (L : List Mk) (x : Int) : List Mk := L.filter fun m => decide (m.rep ≠ x)
theorem butS_perm {L : List Mk} (hn : (L.map Mk.nm).Nodup) {p : Mk → Bool} {xs : List Mk} (h : xs.Perm (L.filter p)) : (butS L xs).Perm (L.filter fun m => !p m) := by
  have hL : L.Nodup := hn.of_map _ fun a b hab e => hab (by rw [e])
  refine (List.perm_ext_iff_of_nodup ((butS_sub L xs).nodup hL) (hL.filter _)).2 fun m => ?_
  rw [butS_mem, List.mem_filter]
  constructor
  · rintro ⟨h1, h2⟩
    refine ⟨h1, ?_⟩
    cases hp : p m with
    | false => rfl
    | true => exact absurd rfl (h2 m (h.mem_iff.2 (List.mem_filter.2 ⟨h1, hp⟩)))
  · rintro ⟨h1, h2⟩
    refine ⟨h1, fun x hx e => ?_⟩
    obtain ⟨h3, h4⟩ := List.mem_filter.1 (h.mem_iff.1 hx)
    rw [nm_one hn h1 h3 e, h4] at h2
    cases h2
theorem TrAt.less {W W' : World} {B room size M : Nat} {time : Int} {L L' : List Mk} (h : TrAt W B room size M time L) (ho : TrB W' B room size M time) (hm : PmAt W' M L') (hk : ∀ m ∈ L, MkB W' m) (hs : ∀ m ∈ L', m ∈ L) (hl : L'.length ≤ L.length) : TrAt W' B room size M time L' :=
  ⟨ho, hm, fun m hm => hk m (hs m hm), h.rm, h.sz, h.tm, fun m hm => h.old m (hs m hm), fun m hm => h.short m (hs m hm), Nat.le_trans hl h.len⟩
/-- Forget on its way: these marks have gone. -/
structure FgI (W : World) (B room size M : Nat) (time : Int) (L : List Mk) (x : Int) (g : Nat) (pre : List Mk) (W' : World) : Prop where
  obj : TrB W' B room size M time
  map : PmAt W' M (butS L pre)
  mks : ∀ m ∈ L, MkB W' m
  b0 : W'.cell? ⟨g, 0, none⟩ = some (.pointer (some ⟨B, 0, none⟩))
  b1 : W'.cell? ⟨g + 1, 0, none⟩ = some (.int .u64 x)
  b3 : W'.cell? ⟨g + 3, 0, none⟩ = some (.func (.func 29) #[] #[.pointer (some ⟨g + 1, 0, none⟩)])
  fb : Fb (trF B M L) W W'
  sz : g + 4 ≤ W'.heap.size
  lo : B < g ∧ M < g ∧ ∀ m ∈ L, m.blk < g
theorem FgI.below {W : World} {B room size M : Nat} {time : Int} {L : List Mk} {x : Int} {g : Nat} {pre : List Mk} {W' W2 : World} (h : FgI W B room size M time L x g pre W') (hg : W.heap.size = g) (hb : Below (g + 4) W' W2) : FgI W B room size M time L x g pre W2 := by
  obtain ⟨l1, l2, l3⟩ := h.lo
  refine ⟨h.obj.same (hb.block _ (by omega)), h.map.same (hb.block _ (by omega)), fun m hm => (h.mks m hm).same (hb.block _ (by have := l3 m hm; omega)), (hb.cell (p := ⟨g, 0, none⟩) (by show g < g + 4; omega)).trans h.b0, (hb.cell (p := ⟨g + 1, 0, none⟩) (by show g + 1 < g + 4; omega)).trans h.b1, (hb.cell (p := ⟨g + 3, 0, none⟩) (by show g + 3 < g + 4; omega)).trans h.b3, ?_, Nat.le_trans h.sz hb.size, h.lo⟩
  exact ⟨hb.os.trans h.fb.os, hb.tape.trans h.fb.tape, hb.output.trans h.fb.output, Nat.le_trans h.fb.size hb.size, fun k hk hn => (hb.block k (by omega)).trans (h.fb.block k hk hn)⟩
set_option maxHeartbeats 4000000 in
theorem forget_any {W : World} {B room size M : Nat} {time : Int} {L : List Mk} (h : TrAt W B room size M time L) {x : Int} (hx : isU x) :
    Calls Try.prog 14 #[.pointer (some ⟨B, 0, none⟩), .int .u64 x] W fun e w' => e = .returned (.int .i64 ((L.length : Int) - (forL L x).length)) ∧ Hid (TrO W B room size M L time (forL L x) w') := by
  refine (callsIn_wide (n := 4)).1 ?_
  refine callsIn_of_wp_marks Try.func14 rfl trivial ?_ rfl
  simp only [Try.ntmps14, List.size_toArray, List.length_cons, List.length_nil, Nat.reduceAdd, Nat.reduceSub, Array.replicate_succ, Array.replicate_zero, List.push_toArray, List.append_toArray, List.nil_append, List.cons_append]
  obtain ⟨w1, hw1⟩ : ∃ w1, w1 = (W.alloc (.cells #[.pointer (some ⟨B, 0, none⟩)] 23)).alloc (.cells #[.int .u64 x] 33) := ⟨_, rfl⟩
  have hb1 : Below W.heap.size W w1 := by rw [hw1]; exact ((Below.refl _ _).alloc (Nat.le_refl _) _).alloc (by simp) _
  have t1 := h.below hb1
  have hM := made_yes t1.obj t1.rm.1
  have c2 := t1.obj.cells.2.2.1
  have hl := fun ty => t1.map.len ty
  have hTh := those_any B 29 #[.pointer (some ⟨W.heap.size + 1, 0, none⟩)] w1
  have s1 : w1.heap.size = W.heap.size + 2 := by rw [hw1]; simp
  have e0 : w1.cell? ⟨W.heap.size, 0, none⟩ = some (.pointer (some ⟨B, 0, none⟩)) := by
    have : w1.heap[W.heap.size]? = some (.cells #[.pointer (some ⟨B, 0, none⟩)] 23 (0, 0)) := by rw [hw1]; exact (Below.heap_alloc _ _ _ (by simp)).trans (heap_alloc_new W _)
    rw [cell_of_row _ _ _ _ _ _ this]; rfl
  have e1 : w1.cell? ⟨W.heap.size + 1, 0, none⟩ = some (.int .u64 x) := by
    have : w1.heap[W.heap.size + 1]? = some (.cells #[.int .u64 x] 33 (0, 0)) := by
      rw [hw1]
      have := heap_alloc_new (W.alloc (.cells #[.pointer (some ⟨B, 0, none⟩)] 23)) (.cells #[.int .u64 x] 33)
      rwa [World.size_alloc] at this
    rw [cell_of_row _ _ _ _ _ _ this]; rfl
  gi_wp2_with fail
  rw [← hw1]
  clear hw1
  refine ⟨trivial, (callsIn_wide.2 hM).mono ?_⟩
  rintro e w2 ⟨rfl, rfl⟩
  gi_wp2_with fail
  refine ⟨trivial, (callsIn_wide.2 hTh).mono ?_⟩
  rintro e w3 ⟨rfl, hw3⟩
  have e2 : w3.cell? ⟨w2.heap.size, 0, none⟩ = some (.pointer (some ⟨B, 0, none⟩)) := by
    have : w3.heap[w2.heap.size]? = some (.cells #[.pointer (some ⟨B, 0, none⟩)] 23 (0, 0)) := by rw [hw3]; exact (Below.heap_alloc _ _ _ (by simp)).trans (heap_alloc_new w2 _)
    rw [cell_of_row _ _ _ _ _ _ this]; rfl
  have e3 : w3.cell? ⟨w2.heap.size + 1, 0, none⟩ = some (.func (.func 29) #[] #[.pointer (some ⟨W.heap.size + 1, 0, none⟩)]) := by
    have : w3.heap[w2.heap.size + 1]? = some (.cells #[.func (.func 29) #[] #[.pointer (some ⟨W.heap.size + 1, 0, none⟩)]] 60 (0, 0)) := by
      rw [hw3]
      have := heap_alloc_new (w2.alloc (.cells #[.pointer (some ⟨B, 0, none⟩)] 23)) (.cells #[.func (.func 29) #[] #[.pointer (some ⟨W.heap.size + 1, 0, none⟩)]] 60)
      rwa [World.size_alloc] at this
    rw [cell_of_row _ _ _ _ _ _ this]; rfl
  have hb3 : Below w2.heap.size w2 w3 := by rw [hw3]; exact ((Below.refl _ _).alloc (Nat.le_refl _) _).alloc (by simp) _
  have s3 : w3.heap.size = W.heap.size + 4 := by rw [hw3]; simp [s1]
  obtain ⟨g, hg⟩ : ∃ g, W.heap.size = g := ⟨_, rfl⟩
  have hI0 : FgI W B room size M time L x g [] w3 := by
    have t3 := t1.below hb3
    rw [hg] at e0 e1
    refine ⟨t3.obj, t3.map, t3.mks, (hb3.cell (World.block_lt_of_cell? _ _ e0)).trans e0, (hb3.cell (World.block_lt_of_cell? _ _ e1)).trans e1, ?_, Fb.of (hb1.trans (hb3.mono hb1.size)), by omega, by have := h.obj.lt; omega, by have := h.map.lt; omega, fun m hm => by have := (h.mks m hm).lt; omega⟩
    rw [s1, hg] at e3
    exact e3
  rw [s1, hg] at e2 e3
  rw [s1, hg]
  clear hM hTh c2 hl e0 e1 t1 hw3
  rw [hg] at s3
  have hmix : Try.prog.follows .mixedOrders = true := by kernel_rfl
  gi_wp2_with fail
  refine rfT (g + 2) (g + 2 + 1) B room size M time 29 #[.pointer (some ⟨g + 1, 0, none⟩)] (fun m => decide (m.rep = x)) L (by omega) rfl rfl (enters_of Try.func29 (by kernel_rfl) rfl)
    (fun pre W' => FgI W B room size M time L x g pre W') (fun s W1 W2 h1 _ h2 => h1.below hg (s3 ▸ h2)) (fun s W1 h1 => by rw [s3]; exact h1.sz) hI0 e2 (fun pre W1 h1 => h1.b3) (fun pre W1 h1 m hm _ => is_rep (h1.mks m hm) h1.b1) hI0.obj hI0.map
    (fun m => { tmps := #[Value.pointer (some { block := B, off := 0 }), Value.int IntKind.u64 x,
          Value.pointer (some { block := g, off := 0 }), Value.pointer (some { block := g + 1, off := 0 }),
          Value.int IntKind.i64 0, Value.int IntKind.i64 L.length, .pointer (some ⟨m.blk, 0, none⟩),
          Value.pointer (some { block := B, off := 0 }), Value.bool true, Value.bool false,
          Value.pointer (some { block := B, off := 0 }), Value.pointer (some { block := B, off := 0 }),
          Value.pointer (some { block := B, off := 2 }), Value.map (some M), Value.int IntKind.i64 L.length,
          Value.pointer (some { block := B, off := 0 }),
          Value.func (Fn.func 29) #[] #[Value.pointer (some { block := g + 1, off := 0 })],
          Value.func (Fn.func 40) #[]
            #[Value.pointer (some { block := g + 2, off := 0 }), Value.pointer (some { block := g + 2 + 1, off := 0 })],
          .pointer (some ⟨m.blk, 0, none⟩), undef, undef, undef, undef, undef, undef, undef, undef, undef, undef, undef, undef, undef, undef, undef], defers := [] }) ?assign ?body ?done
  case assign =>
    intro l m W1 K hK
    gi_wp2_with (rw [Oper.semAt_eq _ _ _ (fun c h => by cases h)]; go_simp; try go_bits)
    exact hK
  case body =>
    rintro l pre m W1 hI ⟨hm, hp, hnew⟩
    have hok := hI0.map.oks m hm
    have hId : FgI W B room size M time L x g pre W1.drew := hI.below hg ((Below.refl _ _).drew)
    obtain ⟨W4, hd, hP4, hF4⟩ := hId.map.drop m.bytes hok.len 0
    have HK4 := hid (Kx.drop (M := M) (W := W1.drew) hok 0 W4 hd)
    have c0 := hI.b0
    have c2 := hI.obj.cells.2.2.1
    have c3 := (hI.mks m hm).cells.1
    clear hI0
    gi_wp2_with fail
    refine round_held (S := fun w => w.cell? ⟨g, 0, none⟩ = some (.pointer (some ⟨B, 0, none⟩)) ∧ w.cell? ⟨B, 2, none⟩ = some (.map (some M)) ∧ w.cell? ⟨m.blk, 0, none⟩ = some (.string (strOfNums m.nm))) (by kernel_rfl) (by rintro ⟨_, _, h⟩; exact h.elim) ?_
    have hS : W1.drew.cell? ⟨g, 0, none⟩ = some (.pointer (some ⟨B, 0, none⟩)) ∧ W1.drew.cell? ⟨B, 2, none⟩ = some (.map (some M)) ∧ W1.drew.cell? ⟨m.blk, 0, none⟩ = some (.string (strOfNums m.nm)) := ⟨c0, c2, c3⟩
    refine wpAnyH_take (i := 0) (v := .pointer (some ⟨B, 0, none⟩)) rfl (by kernel_rfl) (by kernel_rfl) (by kernel_rfl) (fun _ _ _ h => h) (Or.inl ⟨by rfl, fun w hw => ?_⟩) hS ?_
    · obtain ⟨q0, q1, q2⟩ := hw
      go_simp
    simp only [Act.put]
    refine wpAnyH_take (i := 1) (v := .pointer (some ⟨B, 0, none⟩)) rfl (by kernel_rfl) (by kernel_rfl) (by kernel_rfl) (fun _ _ _ h => h) (Or.inl ⟨by rfl, fun w hw => ?_⟩) hS ?_
    · obtain ⟨q0, q1, q2⟩ := hw
      go_simp
    simp only [Act.put]
    refine wpAnyH_take (i := 2) (v := .pointer (some ⟨B, 2, none⟩)) rfl (by kernel_rfl) (by kernel_rfl) (by kernel_rfl) (fun _ _ _ h => h) (Or.inl ⟨by rfl, fun w hw => ?_⟩) hS ?_
    · obtain ⟨q0, q1, q2⟩ := hw
      go_simp
    simp only [Act.put]
    refine wpAnyH_take (i := 3) (v := .map (some M)) rfl (by kernel_rfl) (by kernel_rfl) (by kernel_rfl) (fun _ _ _ h => h) (Or.inl ⟨by rfl, fun w hw => ?_⟩) hS ?_
    · obtain ⟨q0, q1, q2⟩ := hw
      go_simp
    simp only [Act.put]
    refine wpAnyH_take (i := 4) (v := .pointer (some ⟨m.blk, 0, none⟩)) rfl (by kernel_rfl) (by kernel_rfl) (by kernel_rfl) (fun _ _ _ h => h) (Or.inl ⟨by rfl, fun w hw => ?_⟩) hS ?_
    · obtain ⟨q0, q1, q2⟩ := hw
      go_simp
    simp only [Act.put]
    refine wpAnyH_take (i := 5) (v := .pointer (some ⟨m.blk, 0, none⟩)) rfl (by kernel_rfl) (by kernel_rfl) (by kernel_rfl) (fun _ _ _ h => h) (Or.inl ⟨by rfl, fun w hw => ?_⟩) hS ?_
    · obtain ⟨q0, q1, q2⟩ := hw
      go_simp
    simp only [Act.put]
    refine wpAnyH_take (i := 6) (v := .pointer (some ⟨m.blk, 0, none⟩)) rfl (by kernel_rfl) (by kernel_rfl) (by kernel_rfl) (fun _ _ _ h => h) (Or.inl ⟨by rfl, fun w hw => ?_⟩) hS ?_
    · obtain ⟨q0, q1, q2⟩ := hw
      go_simp
    simp only [Act.put]
    refine wpAnyH_take (i := 7) (v := .string (strOfNums m.nm)) rfl (by kernel_rfl) (by kernel_rfl) (by kernel_rfl) (fun _ _ _ h => h) (Or.inl ⟨by rfl, fun w hw => ?_⟩) hS ?_
    · obtain ⟨q0, q1, q2⟩ := hw
      go_simp
    simp only [Act.put]
    refine wpAnyH_ready (rs := [8]) (by kernel_rfl) (by simp) ?_
    refine AllReadyH.cons rfl (fun K hK => ?_) AllReadyH.nil
    go_simp
    obtain ⟨l1, l2, l3⟩ := hI.lo
    have hgM : g ≠ M := by omega
    have hBM : B ≠ M := fun e => by
      obtain ⟨es, clock, h2⟩ := hI.map.blk
      rw [← e, show W1.heap[B]? = _ from hI.obj] at h2
      cases h2
    have hmM : ∀ y ∈ L, y.blk ≠ M := fun y hy e => by
      obtain ⟨es, clock, h2⟩ := hI.map.blk
      rw [← e, show W1.heap[y.blk]? = _ from hI.mks y hy] at h2
      cases h2
    have hI4 : FgI W B room size M time L x g (pre ++ [m]) W4 := by
      refine ⟨hId.obj.same (hF4.block _ hId.obj.lt hBM), by rw [butS_snoc]; exact hP4, fun y hy => (hId.mks y hy).same (hF4.block _ (hId.mks y hy).lt (hmM y hy)), hF4.cell hId.b0 hgM, hF4.cell hId.b1 (by show ¬ g + 1 = M; omega), hF4.cell hId.b3 (by show ¬ g + 3 = M; omega), hId.fb.trans hF4 fun k hk => .inl (.inr (.inl hk)), Nat.le_trans hId.sz hF4.size, hId.lo⟩
    refine hK.out _ _ ⟨hI4.b0, hI4.obj.cells.2.2.1, (hI4.mks m hm).cells.1⟩ (fun _ => wpAnyH_done (by kernel_rfl) ?_ _)
    show KeepsFrom w3.heap.size W1 W4 ∧ Kx M m W1 W4 ∧ FgI W B room size M time L x g (pre ++ [m]) W4
    refine ⟨⟨hF4.size, fun k o hk ho _ => (hF4.block k (lt_of_block ho) (fun e => by have e' : k = M := e; omega)).trans ho⟩, ?_, hI4⟩
    exact (Kx.keep rfl fun k o _ _ _ _ _ _ _ _ => rfl).trans HK4.out
  case done =>
    rintro D xs W5 hD hperm hI5 hK
    have hpp := butS_perm hI0.map.nodup hperm
    have hl := fun ty => hI5.map.len ty
    have c0 := hI5.b0
    have c2 := hI5.obj.cells.2.2.1
    have hfl : (butS L xs).Perm (forL L x) := by
      refine hpp.trans (List.Perm.of_eq ?_)
      unfold forL
      congr 1
      funext y
      simp
    rw [show (butS L xs).length = (forL L x).length from hfl.length_eq] at hl
    have hle : (forL L x).length ≤ L.length := List.length_filter_le _ _
    have hLl : L.length ≤ 4096 := Nat.le_trans h.len h.rm.2
    generalize hn : (forL L x).length = nf at *
    generalize hn2 : L.length = nl at *
    have HE : Hid (∀ o : Obj, TrO W B room size M L time (forL L x) (W5.putObj D o)) := fun o => by
      obtain ⟨l1, l2, l3⟩ := hI5.lo
      have hb : ∀ k, k < g → (W5.putObj D o).heap[k]? = W5.heap[k]? := fun k hk => World.putObj_heap_other (by omega)
      have hpm : PmAt (W5.putObj D o) M (forL L x) := (hI5.map.same (hb _ l2)).perm hfl
      refine ⟨h.less (hI5.obj.same (hb _ l1)) hpm (fun m hm => (hI5.mks m hm).same (hb _ (l3 m hm))) (fun m hm => (List.mem_filter.1 hm).1) (List.length_filter_le _ _), ?_, fun m hm => .inl ⟨m, (List.mem_filter.1 hm).1, rfl⟩⟩
      exact ⟨hI5.fb.os, hI5.fb.tape, hI5.fb.output, by rw [World.putObj_size]; exact hI5.fb.size, fun k hk hn => (hb k (by omega)).trans (hI5.fb.block k hk hn)⟩
    gi_wp2
    refine ⟨by simp, .inl ⟨_, _, rfl, run_takeDeferred hK, ?_⟩⟩
    exact ⟨_, results_tmp rfl _ _ _, by rw [hn, hn2]; rfl, HE.out _⟩
end Go.Proofs.Ytdchoegaindnbaa
