/-
  Match.
-/
import Derived.Test.YtdchoegaindnbaaPtUm
namespace Go.Proofs.Ytdchoegaindnbaa
open Go.RowKit Go.Maps Go.Shelf
set_option linter.unusedVariables false
set_option maxRecDepth 1000000

/-- The mark, used at this time. -/
def Mk.at (m : Mk) (T : Int) : Mk := { m with used := T }
/-- The marks behind a Match. -/
def useL (L : List Mk) (ts : List Int) (T : Int) : List Mk := L.map fun m => if m.toks <+: ts then m.at T else m
/-- Match on its way. -/
structure MtI (W : World) (B room size M : Nat) (T : Int) (L : List Mk) (ts : List Int) (g gx : Nat) (pre : List Mk) (W' : World) : Prop where
  obj : TrB W' B room size M T
  map : PmAt W' M L
  yes : ∀ m ∈ L, m ∈ pre → MkB W' (m.at T)
  no : ∀ m ∈ L, m ∉ pre → MkB W' m
  b0 : W'.cell? ⟨g, 0, none⟩ = some (.pointer (some ⟨B, 0, none⟩))
  bx : W'.cell? ⟨gx, 0, none⟩ = some (.string (strOfNums (txZ ts)))
  bl : W'.cell? ⟨gx + 2, 0, none⟩ = some (.map (some (gx + 1)))
  bi : W'.cell? ⟨gx + 4, 0, none⟩ = some (.func (.func 24) #[] #[.pointer (some ⟨gx, 0, none⟩)])
  um : ∃ K f, UmAt W' (gx + 1) K f ∧ LgP pre K f ∧ K.length ≤ pre.length
  pr : pre.Nodup ∧ ∀ m ∈ pre, m ∈ L
  fb : Fb (trF B M L) W W'
  sz : gx + 5 ≤ W'.heap.size
  lo : B < g ∧ M < g ∧ (∀ m ∈ L, m.blk < g) ∧ g < gx ∧ W.heap.size = g
theorem MtI.below {W : World} {B room size M : Nat} {T : Int} {L : List Mk} {ts : List Int} {g gx : Nat} {pre : List Mk} {W' W2 : World} (h : MtI W B room size M T L ts g gx pre W') (hb : Below (gx + 5) W' W2) : MtI W B room size M T L ts g gx pre W2 := by
  obtain ⟨l1, l2, l3, l4, l5⟩ := h.lo
  obtain ⟨K, f, k1, k2, k3⟩ := h.um
  refine ⟨h.obj.same (hb.block _ (by omega)), h.map.same (hb.block _ (by omega)), fun m hm hp => (h.yes m hm hp).same (hb.block _ (by have := l3 m hm; show m.blk < _; omega)), fun m hm hp => (h.no m hm hp).same (hb.block _ (by have := l3 m hm; omega)),
    (hb.cell (p := ⟨g, 0, none⟩) (by show g < _; omega)).trans h.b0, (hb.cell (p := ⟨gx, 0, none⟩) (by show gx < _; omega)).trans h.bx, (hb.cell (p := ⟨gx + 2, 0, none⟩) (by show gx + 2 < _; omega)).trans h.bl, (hb.cell (p := ⟨gx + 4, 0, none⟩) (by show gx + 4 < _; omega)).trans h.bi, ⟨K, f, k1.same (hb.block _ (by omega)), k2, k3⟩, h.pr, ?_, Nat.le_trans h.sz hb.size, h.lo⟩
  exact ⟨hb.os.trans h.fb.os, hb.tape.trans h.fb.tape, hb.output.trans h.fb.output, Nat.le_trans h.fb.size hb.size, fun k hk hn => (hb.block k (by omega)).trans (h.fb.block k hk hn)⟩
theorem TrAt.tick {W : World} {B room size M : Nat} {time : Int} {L : List Mk} (h : TrAt W B room size M time L) (ht : time < 1000000) : TrAt (W.setCell ⟨B, 3, none⟩ (.int .u64 (time + 1))) B room size M (time + 1) L := by
  have hb : ∀ k, k ≠ B → (W.setCell ⟨B, 3, none⟩ (.int .u64 (time + 1))).heap[k]? = W.heap[k]? := fun k hk => Below.heap_setCell _ _ _ _ hk
  have tm := h.tm
  exact ⟨h.obj.tick _, h.map.same (hb _ (fun e => h.bm e.symm)), fun m hm => (h.mks m hm).same (hb _ (h.mb (h.mks m hm))), h.rm, h.sz, ⟨by omega, by omega⟩, fun m hm => by have := h.old m hm; omega, h.short, h.len⟩
/-- The slice lies apart from the tree. -/
def Aft (len : Nat) (a : Option Addr) (F : Nat → Prop) : Prop := 0 < len → ∀ ad, a = some ad → ¬ F ad.block
theorem Reads.fb {k : IntKind} {w w' : World} {a : Option Addr} {len cap : Nat} {zs : List Int} {F : Nat → Prop} (h : Reads k w a len cap zs) (hb : Fb F w w') (hF : Aft len a F) : Reads k w' a len cap zs :=
  ⟨h.size, h.room, h.most, h.bare, fun i hi => by
    obtain ⟨b, off, e, hc⟩ := h.cell i hi
    exact ⟨b, off, e, hb.cell hc (show ¬ F b from hF (by omega) ⟨b, off, none⟩ e)⟩⟩
set_option maxHeartbeats 4000000 in
theorem match_any {W : World} {B room size M : Nat} {time : Int} {L : List Mk} (h : TrAt W B room size M time L) (ht : time < 1000000) {a : Option Addr} {len cap : Nat} {ts : List Int} (hr : Reads .i64 W a len cap ts) (hi : isIs ts) (hl : len ≤ 1000) (hap : Aft len a (trF B M L)) :
    Calls Try.prog 11 #[.pointer (some ⟨B, 0, none⟩), .slice a len cap] W fun e w' => ∃ b, e = .returned (.map (some b)) ∧ Hid (TrO W B room size M L (time + 1) (useL L ts (time + 1)) w' ∧ W.heap.size ≤ b ∧ ∃ K f, UmAt w' b K f ∧ LgP (L.filter fun m => decide (m.toks <+: ts)) K f) := by
  refine (callsIn_wide (n := 4)).1 ?_
  refine callsIn_of_wp_marks Try.func11 rfl trivial ?_ rfl
  simp only [Try.ntmps11, List.size_toArray, List.length_cons, List.length_nil, Nat.reduceAdd, Nat.reduceSub, Array.replicate_succ, Array.replicate_zero, List.push_toArray, List.append_toArray, List.nil_append, List.cons_append]
  obtain ⟨g, hg⟩ : ∃ g, W.heap.size = g := ⟨_, rfl⟩
  obtain ⟨w1, hw1⟩ : ∃ w1, w1 = W.alloc (.cells #[.pointer (some ⟨B, 0, none⟩)] 23) := ⟨_, rfl⟩
  have hb1 : Below W.heap.size W w1 := by rw [hw1]; exact (Below.refl _ _).alloc (Nat.le_refl _) _
  have t1 := h.below hb1
  have hM := made_yes t1.obj t1.rm.1
  have e0 : w1.cell? ⟨g, 0, none⟩ = some (.pointer (some ⟨B, 0, none⟩)) := by
    have : w1.heap[W.heap.size]? = some (.cells #[.pointer (some ⟨B, 0, none⟩)] 23 (0, 0)) := by rw [hw1]; exact heap_alloc_new W _
    rw [← hg, cell_of_row _ _ _ _ _ _ this]; rfl
  have s1 : w1.heap.size = g + 1 := by rw [hw1]; simp [hg]
  have c3 := t1.obj.cells.2.2.2
  have f3 := t1.obj.frozen 3
  obtain ⟨T, hT⟩ : ∃ T, time + 1 = T := ⟨_, rfl⟩
  have hwr : IntKind.u64.wrap T = T := by rw [IntKind.wrap_u64]; have := h.tm; omega
  have t2 := t1.tick ht
  rw [hT] at t2 ⊢
  gi_wp2_with fail
  rw [← hw1]
  clear hw1
  refine ⟨trivial, (callsIn_wide.2 hM).mono ?_⟩
  rintro e w2 ⟨rfl, rfl⟩
  clear hM
  obtain ⟨w3, hw3⟩ : ∃ w3, w3 = w2.setCell ⟨B, 3, none⟩ (.int .u64 T) := ⟨_, rfl⟩
  have hBg : B < g := by have := h.obj.lt; omega
  have e3 : w3.cell? ⟨g, 0, none⟩ = some (.pointer (some ⟨B, 0, none⟩)) := by
    rw [hw3]
    exact (World.cell?_of_block (Below.heap_setCell _ _ _ _ (by show g ≠ B; omega))).trans e0
  have hf3 : Fb (trF B M L) W w3 := by rw [hw3]; exact (Fb.of hb1).trans (Fb.set (.inl rfl) _) fun k hk => .inl hk
  have hr3 := hr.fb hf3 hap
  have t3 : TrAt w3 B room size M T L := by rw [hw3]; exact t2
  have hC := cut_any t3.obj t3.rm.2 t3.sz.2 a len cap hr.room hr.most
  have s3 : w3.heap.size = g + 1 := by rw [hw3]; simp [World.setCell]; omega
  gi_wp2_with fail
  rw [← hw3]
  clear hw3 c3 f3 t2
  refine ⟨trivial, (callsIn_wide.2 hC).mono ?_⟩
  rintro e w4 ⟨rfl, H4⟩
  clear hC
  obtain ⟨n, hn⟩ : ∃ n, min len (room * size) = n := ⟨_, rfl⟩
  have hnl : n ≤ len := by omega
  have hr4 := (hr3.below H4.out).cut hnl
  have hi4 : isIs (ts.take n) := fun x hx => hi x (List.mem_of_mem_take hx)
  have hX := text_of hr4 hi4 (by omega)
  rw [hn]
  gi_wp2_with fail
  refine ⟨trivial, (callsIn_wide.2 hX).mono ?_⟩
  rintro e w5 ⟨rfl, H5⟩
  clear hX hr4 hr3
  have hb5 : Below w3.heap.size w3 w5 := H4.out.trans (H5.out.mono H4.out.size)
  have hm := @run_makeMap Try.prog
  obtain ⟨gx, hgx⟩ : ∃ gx, w5.heap.size = gx := ⟨_, rfl⟩
  have hggx : g < gx := by have := hb5.size; omega
  have c5 := (hb5.cell (World.block_lt_of_cell? _ _ e3)).trans e3
  obtain ⟨w6, hw6⟩ : ∃ w6, w6 = ((w5.alloc (.cells #[.string (strOfNums (txZ (ts.take n)))] 9)).alloc (.map #[] 0)).alloc (.cells #[.map (some (gx + 1))] 37) := ⟨_, rfl⟩
  have hb6 : Below w5.heap.size w5 w6 := by rw [hw6]; exact (((Below.refl _ _).alloc (Nat.le_refl _) _).alloc (by simp) _).alloc (by simp; omega) _
  have c6 := (hb6.cell (World.block_lt_of_cell? _ _ c5)).trans c5
  have HTh := hid (those_any B 24 #[.pointer (some ⟨gx, 0, none⟩)] w6)
  have s6 : w6.heap.size = gx + 3 := by rw [hw6]; simp [hgx]
  have q0 : w6.heap[gx]? = some (.cells #[.string (strOfNums (txZ (ts.take n)))] 9 (0, 0)) := by
    rw [hw6, ← hgx]
    exact (Below.heap_alloc _ _ _ (by simp; omega)).trans ((Below.heap_alloc _ _ _ (by simp)).trans (heap_alloc_new w5 _))
  have q1 : UmAt w6 (gx + 1) [] (fun _ => 0) := by
    have := UmAt.new (w5.alloc (.cells #[.string (strOfNums (txZ (ts.take n)))] 9))
    rw [World.size_alloc, hgx] at this
    rw [hw6]
    exact this.below ((Below.refl _ _).alloc (Nat.le_refl _) _)
  have q2 : w6.heap[gx + 2]? = some (.cells #[.map (some (gx + 1))] 37 (0, 0)) := by
    have := heap_alloc_new ((w5.alloc (.cells #[.string (strOfNums (txZ (ts.take n)))] 9)).alloc (.map #[] 0)) (.cells #[.map (some (gx + 1))] 37)
    rw [World.size_alloc, World.size_alloc, hgx] at this
    rw [hw6]
    exact this
  have t6 := (t3.below hb5).below hb6
  have hf6 : Fb (trF B M L) W w6 := (hf3.below hb5).below hb6
  have HW6 := hid hw6
  rw [hw6] at c6
  clear hw6
  gi_wp2_with fail
  rw [← HW6.out]
  refine ⟨trivial, (callsIn_wide.2 HTh.out).mono ?_⟩
  rintro e w7 ⟨rfl, hw7⟩
  clear HTh HW6 c6 c5
  have hb7 : Below w6.heap.size w6 w7 := by rw [hw7]; exact ((Below.refl _ _).alloc (Nat.le_refl _) _).alloc (by simp) _
  have q3 : w7.cell? ⟨gx + 3, 0, none⟩ = some (.pointer (some ⟨B, 0, none⟩)) := by
    have : w7.heap[w6.heap.size]? = some (.cells #[.pointer (some ⟨B, 0, none⟩)] 23 (0, 0)) := by rw [hw7]; exact (Below.heap_alloc _ _ _ (by simp)).trans (heap_alloc_new w6 _)
    rw [s6] at this
    rw [cell_of_row _ _ _ _ _ _ this]; rfl
  have q4 : w7.cell? ⟨gx + 4, 0, none⟩ = some (.func (.func 24) #[] #[.pointer (some ⟨gx, 0, none⟩)]) := by
    have : w7.heap[w6.heap.size + 1]? = some (.cells #[.func (.func 24) #[] #[.pointer (some ⟨gx, 0, none⟩)]] 60 (0, 0)) := by
      rw [hw7]
      have := heap_alloc_new (w6.alloc (.cells #[.pointer (some ⟨B, 0, none⟩)] 23)) (.cells #[.func (.func 24) #[] #[.pointer (some ⟨gx, 0, none⟩)]] 60)
      rwa [World.size_alloc] at this
    rw [s6] at this
    rw [cell_of_row _ _ _ _ _ _ this]; rfl
  have s7 : w7.heap.size = gx + 5 := by rw [hw7]; simp [s6]
  have hI0 : MtI W B room size M T L (ts.take n) g gx [] w7 := by
    have t7 := t6.below hb7
    refine ⟨t7.obj, t7.map, by simp, fun m hm _ => t7.mks m hm, ?_, ?_, ?_, q4, ⟨[], _, q1.below hb7, LgP.nil, by simp⟩, by simp, hf6.below hb7, by omega, hBg, by have := h.map.lt; omega, fun m hm => by have := (h.mks m hm).lt; omega, hggx, hg⟩
    · exact (hb7.cell (p := ⟨g, 0, none⟩) (by show g < _; omega)).trans ((hb6.cell (p := ⟨g, 0, none⟩) (by show g < _; omega)).trans ((hb5.cell (World.block_lt_of_cell? _ _ e3)).trans e3))
    · rw [cell_of_row _ _ _ _ _ _ (block_bel q0 hb7)]; rfl
    · rw [cell_of_row _ _ _ _ _ _ (block_bel q2 hb7)]; rfl
  rw [s6]
  clear hw7
  gi_wp2_with fail
  refine rfT (gx + 3) (gx + 3 + 1) B room size M T 24 #[.pointer (some ⟨gx, 0, none⟩)] (fun m => decide (m.toks <+: ts.take n)) L (by omega) rfl rfl (enters_of Try.func24 (by kernel_rfl) rfl)
    (fun pre W' => MtI W B room size M T L (ts.take n) g gx pre W') (fun s W1 W2 h1 _ h2 => h1.below (s7 ▸ h2)) (fun s W1 h1 => by rw [s7]; exact h1.sz) hI0 q3 (fun pre W1 h1 => h1.bi) (fun pre W1 h1 m hm hnp => is_beg (h1.no m hm hnp) (h1.map.oks m hm) h1.bx hi4) hI0.obj hI0.map
    (fun m => { tmps := #[Value.pointer (some { block := B, off := 0 }), Value.slice a len cap,
          Value.pointer (some { block := g, off := 0 }), undef, Value.map none,
          Value.pointer (some { block := gx, off := 0 }),
          Value.func (Fn.func 24) #[] #[Value.pointer (some { block := gx, off := 0 })],
          Value.pointer (some { block := gx + 1 + 1, off := 0 }), .pointer (some ⟨m.blk, 0, none⟩), Value.pointer (some { block := B, off := 0 }),
          Value.bool true, Value.bool false, Value.pointer (some { block := B, off := 0 }),
          Value.pointer (some { block := B, off := 0 }), Value.pointer (some { block := B, off := 3 }),
          Value.int IntKind.u64 time, Value.int IntKind.u64 T, Value.pointer (some { block := B, off := 0 }),
          Value.pointer (some { block := B, off := 3 }), Value.pointer (some { block := B, off := 0 }),
          Value.slice a len cap, Value.slice a n cap, Value.string (strOfNums (txZ (List.take n ts))),
          Value.func (Fn.func 24) #[] #[Value.pointer (some { block := gx, off := 0 })], Value.map (some (gx + 1)),
          .pointer (some ⟨B, 0, none⟩), Value.func (Fn.func 24) #[] #[Value.pointer (some { block := gx, off := 0 })], Value.func (Fn.func 40) #[] #[.pointer (some ⟨gx + 3, 0, none⟩), .pointer (some ⟨gx + 3 + 1, 0, none⟩)], .pointer (some ⟨m.blk, 0, none⟩), undef, undef, undef, undef, undef, undef, undef, undef, undef, undef, undef,
          undef, undef, undef, undef, undef, undef, undef, undef, undef, undef, undef, undef, undef], defers := [] }) ?assign ?body ?done
  case assign =>
    intro l m W1 K hK
    gi_wp2_with (rw [Oper.semAt_eq _ _ _ (fun c h => by cases h)]; go_simp; try go_bits)
    exact hK
  case body =>
    rintro l pre m W1 hI ⟨hm, hp, hnew⟩
    have hok := hI0.map.oks m hm
    obtain ⟨K, f, u1, u2, u3⟩ := hI.um
    obtain ⟨l1, l2, l3, l4, l5⟩ := hI.lo
    have hmb := l3 m hm
    have hmk := hI.no m hm hnew
    obtain ⟨W2, hW2⟩ : ∃ W2, W2 = W1.setCell ⟨m.blk, 3, none⟩ (.int .u64 T) := ⟨_, rfl⟩
    have hb2 : ∀ k, k ≠ m.blk → W2.heap[k]? = W1.heap[k]? := fun k hk => by rw [hW2]; exact Below.heap_setCell _ _ _ _ hk
    have hm2 : MkB W2 (m.at T) := by rw [hW2]; exact hmk.use T
    have hsz2 : W2.heap.size = W1.heap.size := by rw [hW2]; simp [World.setCell]
    have hE2 : W2.os = W1.os ∧ W2.tape = W1.tape ∧ W2.output = W1.output := by rw [hW2]; exact ⟨rfl, rfl, rfl⟩
    have c0 := hI.b0
    have c3 := hI.obj.cells.2.2.2
    have d3 := hmk.cells.2.2.2
    have f3 := hmk.frozen 3
    have u1d : UmAt W2.drew (gx + 1) K f := u1.same (hb2 _ (by omega))
    obtain ⟨mx, hmx⟩ : ∃ mx, max (f m.rep) m.toks.length = mx := ⟨_, rfl⟩
    have hKl : K.length ≤ 100000 := by
      have := hI.pr.1.length_le_of_subset hI.pr.2
      have := h.len
      have := h.rm.2
      omega
    obtain ⟨W4, hd, hP4, hF4⟩ := u1d.store hKl hok.1 mx
    have e2 : W2.cell? ⟨gx + 2, 0, none⟩ = some (.map (some (gx + 1))) := (World.cell?_of_block (hb2 (gx + 2) (by omega))).trans hI.bl
    have HLk := hid (u1d.look hok.1)
    gi_wp2_with (rw [Oper.semAt_eq _ _ _ (fun c h => by cases h)]; go_simp; try go_bits)
    rw [← hW2]
    clear hW2 c0 c3 d3 f3
    refine round_held (S := fun w => w.cell? ⟨gx + 2, 0, none⟩ = some (.map (some (gx + 1))) ∧ w.cell? ⟨m.blk, 1, none⟩ = some (.int .u64 m.rep) ∧ w.cell? ⟨m.blk, 2, none⟩ = some (.int .i64 m.toks.length)) (by kernel_rfl) (by rintro ⟨_, _, h⟩; exact h.elim) ?_
    have hS : W2.drew.cell? ⟨gx + 2, 0, none⟩ = some (.map (some (gx + 1))) ∧ W2.drew.cell? ⟨m.blk, 1, none⟩ = some (.int .u64 m.rep) ∧ W2.drew.cell? ⟨m.blk, 2, none⟩ = some (.int .i64 m.toks.length) := ⟨e2, hm2.cells.2.1, hm2.cells.2.2.1⟩
    refine wpAnyH_take (i := 0) (v := .map (some (gx + 1))) rfl (by kernel_rfl) (by kernel_rfl) (by kernel_rfl) (fun _ _ _ h => h) (Or.inl ⟨by rfl, fun w hw => ?_⟩) hS ?_
    · obtain ⟨q0, q1, q2⟩ := hw
      go_simp
    simp only [Act.put]
    refine wpAnyH_take (i := 1) (v := .pointer (some ⟨m.blk, 0, none⟩)) rfl (by kernel_rfl) (by kernel_rfl) (by kernel_rfl) (fun _ _ _ h => h) (Or.inl ⟨by rfl, fun w hw => ?_⟩) hS ?_
    · obtain ⟨q0, q1, q2⟩ := hw
      go_simp
    simp only [Act.put]
    refine wpAnyH_take (i := 2) (v := .pointer (some ⟨m.blk, 0, none⟩)) rfl (by kernel_rfl) (by kernel_rfl) (by kernel_rfl) (fun _ _ _ h => h) (Or.inl ⟨by rfl, fun w hw => ?_⟩) hS ?_
    · obtain ⟨q0, q1, q2⟩ := hw
      go_simp
    simp only [Act.put]
    refine wpAnyH_take (i := 3) (v := .pointer (some ⟨m.blk, 1, none⟩)) rfl (by kernel_rfl) (by kernel_rfl) (by kernel_rfl) (fun _ _ _ h => h) (Or.inl ⟨by rfl, fun w hw => ?_⟩) hS ?_
    · obtain ⟨q0, q1, q2⟩ := hw
      go_simp
    simp only [Act.put]
    refine wpAnyH_take (i := 4) (v := .int .u64 m.rep) rfl (by kernel_rfl) (by kernel_rfl) (by kernel_rfl) (fun _ _ _ h => h) (Or.inl ⟨by rfl, fun w hw => ?_⟩) hS ?_
    · obtain ⟨q0, q1, q2⟩ := hw
      go_simp
    simp only [Act.put]
    refine wpAnyH_take (i := 5) (v := .map (some (gx + 1))) rfl (by kernel_rfl) (by kernel_rfl) (by kernel_rfl) (fun _ _ _ h => h) (Or.inl ⟨by rfl, fun w hw => ?_⟩) hS ?_
    · obtain ⟨q0, q1, q2⟩ := hw
      go_simp
    simp only [Act.put]
    refine wpAnyH_take (i := 6) (v := .pointer (some ⟨m.blk, 0, none⟩)) rfl (by kernel_rfl) (by kernel_rfl) (by kernel_rfl) (fun _ _ _ h => h) (Or.inl ⟨by rfl, fun w hw => ?_⟩) hS ?_
    · obtain ⟨q0, q1, q2⟩ := hw
      go_simp
    simp only [Act.put]
    refine wpAnyH_take (i := 7) (v := .pointer (some ⟨m.blk, 0, none⟩)) rfl (by kernel_rfl) (by kernel_rfl) (by kernel_rfl) (fun _ _ _ h => h) (Or.inl ⟨by rfl, fun w hw => ?_⟩) hS ?_
    · obtain ⟨q0, q1, q2⟩ := hw
      go_simp
    simp only [Act.put]
    refine wpAnyH_take (i := 8) (v := .pointer (some ⟨m.blk, 1, none⟩)) rfl (by kernel_rfl) (by kernel_rfl) (by kernel_rfl) (fun _ _ _ h => h) (Or.inl ⟨by rfl, fun w hw => ?_⟩) hS ?_
    · obtain ⟨q0, q1, q2⟩ := hw
      go_simp
    simp only [Act.put]
    refine wpAnyH_take (i := 9) (v := .int .u64 m.rep) rfl (by kernel_rfl) (by kernel_rfl) (by kernel_rfl) (fun _ _ _ h => h) (Or.inl ⟨by rfl, fun w hw => ?_⟩) hS ?_
    · obtain ⟨q0, q1, q2⟩ := hw
      go_simp
    simp only [Act.put]
    refine wpAnyH_take (i := 11) (v := .pointer (some ⟨m.blk, 0, none⟩)) rfl (by kernel_rfl) (by kernel_rfl) (by kernel_rfl) (fun _ _ _ h => h) (Or.inl ⟨by rfl, fun w hw => ?_⟩) hS ?_
    · obtain ⟨q0, q1, q2⟩ := hw
      go_simp
    simp only [Act.put]
    refine wpAnyH_take (i := 12) (v := .pointer (some ⟨m.blk, 0, none⟩)) rfl (by kernel_rfl) (by kernel_rfl) (by kernel_rfl) (fun _ _ _ h => h) (Or.inl ⟨by rfl, fun w hw => ?_⟩) hS ?_
    · obtain ⟨q0, q1, q2⟩ := hw
      go_simp
    simp only [Act.put]
    refine wpAnyH_take (i := 13) (v := .pointer (some ⟨m.blk, 2, none⟩)) rfl (by kernel_rfl) (by kernel_rfl) (by kernel_rfl) (fun _ _ _ h => h) (Or.inl ⟨by rfl, fun w hw => ?_⟩) hS ?_
    · obtain ⟨q0, q1, q2⟩ := hw
      go_simp
    simp only [Act.put]
    refine wpAnyH_take (i := 14) (v := .int .i64 m.toks.length) rfl (by kernel_rfl) (by kernel_rfl) (by kernel_rfl) (fun _ _ _ h => h) (Or.inl ⟨by rfl, fun w hw => ?_⟩) hS ?_
    · obtain ⟨q0, q1, q2⟩ := hw
      go_simp
    simp only [Act.put]
    have hlk := HLk.out
    refine wpAnyH_ready (rs := [10]) (by kernel_rfl) (by simp) ?_
    refine AllReadyH.cons rfl (fun Kc hK => ?_) AllReadyH.nil
    go_simp
    refine hK.out _ _ hS (fun _ => ?_)
    clear hK Kc
    refine wpAnyH_take (i := 15) (v := .int .i64 mx) rfl (by kernel_rfl) (by kernel_rfl) (by kernel_rfl) (fun _ _ _ h => h) (Or.inl ⟨by rfl, fun w hw => ?_⟩) hS ?_
    · obtain ⟨q0, q1, q2⟩ := hw
      go_simp
      rw [← hmx]
      split <;> omega
    simp only [Act.put]
    refine wpAnyH_ready (rs := [16]) (by kernel_rfl) (by simp) ?_
    refine AllReadyH.cons rfl (fun Kc hK => ?_) AllReadyH.nil
    go_simp
    have hW : ∀ k, k ≠ m.blk → k ≠ gx + 1 → k < W1.heap.size → W4.heap[k]? = W1.heap[k]? := fun k k1 k2 k3 => (hF4.block k (by
      have := hb2
      show k < W2.heap.size
      have e : W2.heap.size = W1.heap.size := hsz2
      omega) k2).trans (hb2 k k1)
    have hmo : ∀ y ∈ L, y ≠ m → y.blk ≠ m.blk := fun y hy hne e => by
      by_cases hyp : y ∈ pre
      · exact hne (nm_one hI.map.nodup hy hm (mk_one (a := y.at T) (b := m) (hI.yes y hy hyp) hmk e))
      · exact hne (nm_one hI.map.nodup hy hm (mk_one (hI.no y hy hyp) hmk e))
    have hl5 := hI.sz
    have hmB : m.blk ≠ B := fun e => by
      have h2 : W1.heap[B]? = _ := hI.obj
      rw [← e, show W1.heap[m.blk]? = _ from hmk] at h2
      simp at h2
    have hmM : m.blk ≠ M := fun e => by
      obtain ⟨es, clock, h2⟩ := hI.map.blk
      rw [← e, show W1.heap[m.blk]? = _ from hmk] at h2
      cases h2
    have hfb : Fb (trF B M L) W W4 := by
      have q := hI.fb
      refine ⟨(hF4.os.trans hE2.1).trans q.os, (hF4.tape.trans hE2.2.1).trans q.tape, (hF4.output.trans hE2.2.2).trans q.output, Nat.le_trans q.size (Nat.le_trans (Nat.le_of_eq hsz2.symm) hF4.size), fun k k1 k2 => ?_⟩
      exact (hW k (fun e => k2 (.inr (.inr ⟨m, hm, e.symm⟩))) (by omega) (by omega)).trans (q.block k k1 k2)
    have hI4 : MtI W B room size M T L (ts.take n) g gx (pre ++ [m]) W4 := by
      have cl : ∀ k, k ≠ m.blk → k ≠ gx + 1 → k < gx + 5 → ∀ v, W1.cell? ⟨k, 0, none⟩ = some v → W4.cell? ⟨k, 0, none⟩ = some v := fun k k1 k2 k3 v hv => (World.cell?_of_block (hW k k1 k2 (by omega))).trans hv
      refine ⟨hI.obj.same (hW _ (fun e => hmB e.symm) (by omega) (by omega)), hI.map.same (hW _ (fun e => hmM e.symm) (by omega) (by omega)), fun y hy hyp => ?_, fun y hy hyp => ?_, cl g (by omega) (by omega) (by omega) _ hI.b0, cl gx (by omega) (by omega) (by omega) _ hI.bx, cl (gx + 2) (by omega) (by omega) (by omega) _ hI.bl, cl (gx + 4) (by omega) (by omega) (by omega) _ hI.bi, ⟨_, _, hP4, hmx ▸ u2.step m, ?_⟩, ⟨?_, ?_⟩, hfb, by have := hF4.size; show gx + 5 ≤ W4.heap.size; have e : W2.drew.heap.size = W1.heap.size := hsz2; omega, hI.lo⟩
      · by_cases e : y = m
        · subst e
          exact hm2.same (hF4.block _ hm2.lt (by show ¬ y.blk = gx + 1; omega))
        · have hyp' : y ∈ pre := by
            rcases List.mem_append.1 hyp with h' | h'
            · exact h'
            · simp at h'; exact absurd h' e
          have := l3 y hy
          exact (hI.yes y hy hyp').same (hW _ (hmo y hy e) (by show y.blk ≠ gx + 1; omega) (by show y.blk < _; omega))
      · have e : y ≠ m := fun e => hyp (by simp [e])
        have := l3 y hy
        exact (hI.no y hy fun h' => hyp (by simp [h'])).same (hW _ (hmo y hy e) (by omega) (by omega))
      · rw [List.length_append]
        by_cases e : m.rep ∈ K
        · rw [if_pos e]; omega
        · rw [if_neg e]; simp; omega
      · exact List.nodup_append.2 ⟨hI.pr.1, by simp, fun x hx y hy e => by simp at hy; subst hy; exact hnew (e ▸ hx)⟩
      · intro x hx
        rcases List.mem_append.1 hx with h' | h'
        · exact hI.pr.2 x h'
        · simp at h'; exact h' ▸ hm
    refine hK.out _ _ ⟨hI4.bl, ?_, ?_⟩ (fun _ => wpAnyH_done (by kernel_rfl) ?_ _)
    · exact (hI4.yes m hm (by simp)).cells.2.1
    · exact (hI4.yes m hm (by simp)).cells.2.2.1
    show KeepsFrom w7.heap.size W1 W4 ∧ Kx M m W1 W4 ∧ MtI W B room size M T L (ts.take n) g gx (pre ++ [m]) W4
    refine ⟨⟨by have := hF4.size; have e : W2.drew.heap.size = W1.heap.size := hsz2; omega, fun k o hk ho _ => (hW k (by omega) (by omega) (lt_of_block ho)).trans ho⟩, ?_, hI4⟩
    refine Kx.keep (hW _ (fun e => hmM e.symm) (by omega) (by omega)) fun k o ho hw hne p1 p2 p3 p4 e => hW k (fun e2 => ?_) (fun e2 => ?_) (lt_of_block ho)
    · rw [e2, show W1.heap[m.blk]? = _ from hmk, e] at ho
      simp at ho
    · obtain ⟨es, clock, h2⟩ := u1.blk
      rw [e2, h2, e] at ho
      simp at ho
  case done =>
    rintro D xs W5 hD hperm hI5 hK
    obtain ⟨K, f, u1, u2, u3⟩ := hI5.um
    obtain ⟨l1, l2, l3, l4, l5⟩ := hI5.lo
    have c0 := hI5.bl
    have hmem : ∀ m, m ∈ xs ↔ m ∈ L.filter fun m => decide (m.toks <+: ts) := fun m => by
      rw [hperm.mem_iff, List.mem_filter, List.mem_filter]
      refine and_congr_right fun hm => ?_
      have hs := h.short m hm
      simp only [decide_eq_true_eq]
      constructor
      · intro hp; exact hp.trans (List.take_prefix _ _)
      · intro hp
        refine List.prefix_take_iff.2 ⟨hp, ?_⟩
        have := hp.length_le
        have := hr.size
        omega
    have hx2 : ∀ m ∈ L, (m ∈ xs ↔ m.toks <+: ts) := fun m hm => by
      rw [hmem m, List.mem_filter]
      simp [hm]
    have HE : Hid (∀ o : Obj, TrO W B room size M L T (useL L ts T) (W5.putObj D o) ∧ UmAt (W5.putObj D o) (gx + 1) K f) := fun o => by
      have hb : ∀ k, k < gx + 5 → (W5.putObj D o).heap[k]? = W5.heap[k]? := fun k hk => World.putObj_heap_other (by omega)
      have t7 := t6
      refine ⟨⟨⟨hI5.obj.same (hb _ (by omega)), ?_, ?_, h.rm, h.sz, t7.tm, ?_, ?_, by unfold useL; rw [List.length_map]; exact h.len⟩, ?_, ?_⟩, u1.same (hb _ (by omega))⟩
      · refine (hI5.map.same (hb _ (by omega))).uses _ fun m hm => ?_
        have hok := hI5.map.oks m hm
        split
        · exact ⟨rfl, rfl, hok.1, hok.2.1, hok.2.2.1, by have := t7.tm; exact ⟨this.1, by show T ≤ _; omega⟩⟩
        · exact ⟨rfl, rfl, hok⟩
      · intro m hm
        obtain ⟨x, hx, rfl⟩ := List.mem_map.1 hm
        have := l3 x hx
        split
        · rename_i hp
          exact (hI5.yes x hx ((hx2 x hx).2 hp)).same (hb _ (by show x.blk < _; omega))
        · rename_i hp
          exact (hI5.no x hx fun h' => hp ((hx2 x hx).1 h')).same (hb _ (by omega))
      · intro m hm
        obtain ⟨x, hx, rfl⟩ := List.mem_map.1 hm
        have := t7.old x hx
        split
        · exact Int.le_refl _
        · exact this
      · intro m hm
        obtain ⟨x, hx, rfl⟩ := List.mem_map.1 hm
        have := h.short x hx
        split <;> exact this
      · exact ⟨hI5.fb.os, hI5.fb.tape, hI5.fb.output, by rw [World.putObj_size]; exact hI5.fb.size, fun k hk hn => (hb k (by omega)).trans (hI5.fb.block k hk hn)⟩
      · intro m hm
        obtain ⟨x, hx, rfl⟩ := List.mem_map.1 hm
        exact .inl ⟨x, hx, by split <;> rfl⟩
    gi_wp2
    refine ⟨by simp, .inl ⟨_, _, rfl, run_takeDeferred hK, ?_⟩⟩
    exact ⟨_, results_tmp rfl _ _ _, gx + 1, rfl, (HE.out _).1, by omega, K, f, (HE.out _).2, u2.perm hmem⟩
end Go.Proofs.Ytdchoegaindnbaa
