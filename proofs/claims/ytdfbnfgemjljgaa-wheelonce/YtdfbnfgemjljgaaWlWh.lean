/-
  The program's wheel in memory (WlI, WlAt): New, made, goOn, Len, Next, Now.
-/
import Derived.Test.YtdfbnfgemjljgaaWlLst
import Derived.Test.YtdfbnfgemjljgaaWqHeap
namespace Go.Proofs.Ytdfbnfgemjljgaa
open Go.RowKit Go.Maps
set_option linter.unusedVariables false
set_option maxRecDepth 1000000

/-- A wheel as it lies. -/
structure WlI (W : World) (B : Nat) (T last : Int) (L : List Tm) (M : Nat) (v : Value) (ms : List Qe) : Prop where
  obj : WB W B T last v M
  map : MqAt W M ms
  que : QvAt v ms W
  hp : HeapQ ms ms.length
  pm : (ms.map Qe.tm).Perm L
  so : SoT L
  nm : ∀ t ∈ L, 1 ≤ t.num ∧ t.num ≤ last
  tm : 0 ≤ T ∧ T ≤ 1099511627776
  la : 0 ≤ last ∧ last ≤ 2147483647
  few : L.length ≤ 4096
/-- Its blocks. -/
def wlF (B M : Nat) (v : Value) (ms : List Qe) (k : Nat) : Prop := k = B ∨ k = M ∨ frV v ms k
def WlAt (W : World) (B : Nat) (F : Nat → Prop) (T last : Int) (L : List Tm) : Prop := ∃ M v ms, WlI W B T last L M v ms ∧ ∀ k, F k ↔ wlF B M v ms k
theorem MqAt.nB {W : World} {M : Nat} {ms : List Qe} (h : MqAt W M ms) {k : Nat} {cs : Array Value} {t : TypeId} {f : Nat × Nat} (hk : W.heap[k]? = some (.cells cs t f)) : k ≠ M := fun e => by
  obtain ⟨es, clock, h2⟩ := h.blk
  rw [← e, hk] at h2
  cases h2
theorem WlI.len {W : World} {B : Nat} {T last : Int} {L : List Tm} {M : Nat} {v : Value} {ms : List Qe} (h : WlI W B T last L M v ms) : ms.length = L.length := by have := h.pm.length_eq; rwa [List.length_map] at this
theorem QvAt.nM {v : Value} {ms : List Qe} {W : World} (h : QvAt v ms W) {M : Nat} {L : List Qe} (hm : MqAt W M L) : ¬ frV v ms M := by
  rintro (e | ⟨q, hq, e⟩)
  · obtain ⟨_, cur, hc⟩ := own_blkP h.own e
    exact hm.nB hc rfl
  · obtain ⟨i, hi, rfl⟩ := mem_gq hq
    exact hm.nB (h.els i hi) e
theorem WlI.BM {W : World} {B : Nat} {T last : Int} {L : List Tm} {M : Nat} {v : Value} {ms : List Qe} (h : WlI W B T last L M v ms) : B ≠ M := h.map.nB h.obj
theorem WlI.lts {W : World} {B : Nat} {T last : Int} {L : List Tm} {M : Nat} {v : Value} {ms : List Qe} (h : WlI W B T last L M v ms) {k : Nat} (hk : wlF B M v ms k) : k < W.heap.size := by
  rcases hk with rfl | rfl | hk
  · exact h.obj.lt
  · exact h.map.lt
  · exact h.que.lts hk
theorem WlI.fb {W W' : World} {B : Nat} {T last : Int} {L : List Tm} {M : Nat} {v : Value} {ms : List Qe} (h : WlI W B T last L M v ms) {G : Nat → Prop} (hb : Fb G W W') (hF : ∀ k, wlF B M v ms k → ¬ G k) : WlI W' B T last L M v ms :=
  ⟨h.obj.same (hb.block _ h.obj.lt (hF _ (.inl rfl))), h.map.fb hb (hF _ (.inr (.inl rfl))), h.que.fb hb fun k hk => hF _ (.inr (.inr hk)), h.hp, h.pm, h.so, h.nm, h.tm, h.la, h.few⟩
theorem WlI.below {W W' : World} {B : Nat} {T last : Int} {L : List Tm} {M : Nat} {v : Value} {ms : List Qe} (h : WlI W B T last L M v ms) (hb : Below W.heap.size W W') : WlI W' B T last L M v ms := h.fb (G := fun _ => False) (Fb.of hb) fun _ _ h => h
theorem WlI.time {W : World} {B : Nat} {T last : Int} {L : List Tm} {M : Nat} {v : Value} {ms : List Qe} (h : WlI W B T last L M v ms) {T' : Int} (hT : 0 ≤ T' ∧ T' ≤ 1099511627776) : WlI (W.setCell ⟨B, 0, none⟩ (.int .i64 T')) B T' last L M v ms := by
  have hf : Fb (at1 B) W (W.setCell ⟨B, 0, none⟩ (.int .i64 T')) := Fb.set (F := at1 B) (p := ⟨B, 0, none⟩) rfl _
  exact ⟨h.obj.time T', h.map.fb hf fun e => h.BM (show B = M from (show M = B from e).symm), h.que.fb hf fun k hk e => h.que.nB h.obj ((show k = B from e) ▸ hk), h.hp, h.pm, h.so, h.nm, hT, h.la, h.few⟩
theorem neq_map (M : Nat) (W : World) : (binOp .neq 57 (.map (some M)) (.map none)).run Try.prog W = .ok (.bool true) W := by kernel_rfl
theorem neq_nil (W : World) : (binOp .neq 57 (.map none) (.map none)).run Try.prog W = .ok (.bool false) W := by kernel_rfl
theorem wmade_yes {W : World} {B : Nat} {T last : Int} {v : Value} {M : Nat} (h : WB W B T last v M) : Calls Try.prog 21 #[.pointer (some ⟨B, 0, none⟩)] W fun r w' => r = .returned (.bool true) ∧ w' = W := by
  have c0 := h.cells.2.2.2
  have hbo := neq_map M
  clear h
  go_enter Try.func21, Try.ntmps21
  go_wp2
  go_ret
  exact ⟨rfl, rfl⟩
theorem wmade_nil (W : World) : Calls Try.prog 21 #[.pointer none] W fun r w' => r = .returned (.bool false) ∧ w' = W := by
  go_enter Try.func21, Try.ntmps21
  go_wp2
  go_ret
  exact ⟨rfl, rfl⟩
theorem wmade_zero {W : World} {B : Nat} (c0 : W.cell? ⟨B, 3, none⟩ = some (.map none)) : Calls Try.prog 21 #[.pointer (some ⟨B, 0, none⟩)] W fun r w' => r = .returned (.bool false) ∧ w' = W := by
  have hbo := neq_nil
  go_enter Try.func21, Try.ntmps21
  go_wp2
  go_ret
  exact ⟨rfl, rfl⟩
theorem wgoOn_any {W : World} {B : Nat} {T last : Int} {L : List Tm} {M : Nat} {v : Value} {ms : List Qe} (h : WlI W B T last L M v ms) (now : Int) :
    Calls Try.prog 23 #[.pointer (some ⟨B, 0, none⟩), .int .i64 now] W fun e w' => e = .returned (.tuple #[]) ∧ Hid (WlI w' B (timeZ T now) last L M v ms ∧ Fb (at1 B) W w' ∧ w'.heap.size = W.heap.size) := by
  have c0 := h.obj.cells.1
  have f0 := h.obj.frozen 0
  by_cases h1 : T < now
  · by_cases h2 : now ≤ 1099511627776
    · have HE : Hid (WlI (W.setCell ⟨B, 0, none⟩ (.int .i64 now)) B (timeZ T now) last L M v ms ∧ Fb (at1 B) W (W.setCell ⟨B, 0, none⟩ (.int .i64 now)) ∧ (W.setCell ⟨B, 0, none⟩ (.int .i64 now)).heap.size = W.heap.size) := by
        have e : timeZ T now = now := if_pos ⟨h1, h2⟩
        rw [e]
        exact ⟨h.time (by have := h.tm; omega), Fb.set (F := at1 B) (p := ⟨B, 0, none⟩) rfl _, by simp [World.setCell]⟩
      clear h
      go_enter Try.func23, Try.ntmps23
      go_wp2
      go_end0
      exact ⟨rfl, HE⟩
    · have HE : Hid (WlI W B (timeZ T now) last L M v ms ∧ Fb (at1 B) W W ∧ W.heap.size = W.heap.size) := by
        have e : timeZ T now = T := if_neg (by omega)
        rw [e]
        exact ⟨h, Fb.refl _ _, rfl⟩
      have h2' : 1099511627776 < now := by omega
      clear h
      go_enter Try.func23, Try.ntmps23
      go_wp2
      go_end0
      exact ⟨rfl, HE.out.1, HE.out.2.1, rfl⟩
  · have HE : Hid (WlI W B (timeZ T now) last L M v ms ∧ Fb (at1 B) W W ∧ W.heap.size = W.heap.size) := by
      have e : timeZ T now = T := if_neg (by omega)
      rw [e]
      exact ⟨h, Fb.refl _ _, rfl⟩
    have h1' : now ≤ T := by omega
    clear h
    go_enter Try.func23, Try.ntmps23
    go_wp2
    go_end0
    exact ⟨rfl, HE.out.1, HE.out.2.1, rfl⟩
theorem wnow_any {W : World} {B : Nat} {F : Nat → Prop} {T last : Int} {L : List Tm} (h : WlAt W B F T last L) :
    Calls Try.prog 19 #[.pointer (some ⟨B, 0, none⟩)] W fun e w' => e = .returned (.int .i64 T) ∧ Hid (Below W.heap.size W w') := by
  obtain ⟨M, v, ms, h, _⟩ := h
  have hM := wmade_yes h.obj
  have c0 := h.obj.cells.1
  clear h
  go_enter Try.func19, Try.ntmps19
  go_wp2_with fail
  refine hM.mono ?_
  rintro r w1 ⟨rfl, hw⟩
  subst w1
  clear hM
  go_wp2
  go_ret
  exact ⟨rfl, Below.refl _ _⟩
theorem wlen20_any {W : World} {B : Nat} {F : Nat → Prop} {T last : Int} {L : List Tm} (h : WlAt W B F T last L) :
    Calls Try.prog 18 #[.pointer (some ⟨B, 0, none⟩)] W fun e w' => e = .returned (.int .i64 L.length) ∧ Hid (Below W.heap.size W w') := by
  obtain ⟨M, v, ms, h, _⟩ := h
  have hM := wmade_yes h.obj
  have c3 := h.obj.cells.2.2.2
  have hlen := fun ty => h.map.len ty
  rw [h.len] at hlen
  clear h
  go_enter Try.func18, Try.ntmps18
  go_wp2_with fail
  refine hM.mono ?_
  rintro r w1 ⟨rfl, hw⟩
  subst w1
  clear hM
  go_wp2
  go_ret
  exact ⟨rfl, Below.refl _ _⟩
theorem wnext_any {W : World} {B : Nat} {F : Nat → Prop} {T last : Int} {L : List Tm} (h : WlAt W B F T last L) :
    Calls Try.prog 17 #[.pointer (some ⟨B, 0, none⟩)] W fun e w' => e = .returned (.tuple #[.int .i64 ((L.head?.map Tm.due).getD 0), .bool (decide (0 < L.length))]) ∧ Hid (Below W.heap.size W w') := by
  obtain ⟨M, v, ms, h, _⟩ := h
  have hM := wmade_yes h.obj
  have c2 := h.obj.cells.2.2.1
  have hl := h.len
  rcases h.que.form with ⟨rfl, rfl⟩ | ⟨g, cap, rfl, hq⟩
  · obtain rfl : L = [] := List.eq_nil_of_length_eq_zero (by rw [← hl]; rfl)
    clear h hl
    go_enter Try.func17, Try.ntmps17
    go_wp2_with fail
    refine hM.mono ?_
    rintro r w1 ⟨rfl, hw⟩
    subst w1
    clear hM
    go_wp2_with fail
    refine (wlen_any _ _ _ _).mono ?_
    rintro r w1 ⟨rfl, hw⟩
    subst w1
    go_wp2
    go_ret2
    exact ⟨rfl, Below.refl _ _⟩
  · by_cases h0 : ms.length = 0
    · obtain rfl : L = [] := List.eq_nil_of_length_eq_zero (by rw [← hl]; exact h0)
      rw [h0] at c2
      clear h hl hq
      go_enter Try.func17, Try.ntmps17
      go_wp2_with fail
      refine hM.mono ?_
      rintro r w1 ⟨rfl, hw⟩
      subst w1
      clear hM
      go_wp2_with fail
      refine (wlen_any _ _ _ _).mono ?_
      rintro r w1 ⟨rfl, hw⟩
      subst w1
      go_wp2
      go_ret2
      exact ⟨rfl, Below.refl _ _⟩
    · obtain ⟨R, hR⟩ := head_is h.pm h.so h.hp (by omega)
      have hro := hq.room
      have c5 := hq.cell (i := 0) (by omega)
      have c6 := (hq.els 0 (by omega)).cells.2.2.2.1
      unfold ptQ at c5
      obtain ⟨n, hn⟩ : ∃ n, ms.length = n := ⟨_, rfl⟩
      have hLn : L.length = n := by omega
      have HL : Hid ((L.head?.map Tm.due).getD 0 = (gq ms 0).tm.due ∧ decide (0 < L.length) = true) := ⟨by rw [hR]; rfl, by rw [hLn]; simp; omega⟩
      rw [HL.out.1, HL.out.2]
      rw [hn] at c2 h0 hro
      have h1 : ¬ (n : Int) = 0 := by omega
      have h3 : ((n : Int) == 0) = false := by simpa using h1
      have h2 : 0 < n := by omega
      clear h hl hq hR hn hLn HL
      generalize (gq ms 0).blk = qb at *
      generalize (gq ms 0).tm.due = du at *
      go_enter Try.func17, Try.ntmps17
      go_wp2_with fail
      refine hM.mono ?_
      rintro r w1 ⟨rfl, hw⟩
      subst w1
      clear hM
      go_wp2_with fail
      refine (wlen_any _ _ _ _).mono ?_
      rintro r w1 ⟨rfl, hw⟩
      subst w1
      go_wp2
      go_ret2
      exact ⟨rfl, Below.refl _ _⟩
theorem wnew_any (W : World) : Calls Try.prog 6 #[] W fun e w' => ∃ B, e = .returned (.pointer (some ⟨B, 0, none⟩)) ∧ Hid (∃ F, WlAt w' B F 0 0 [] ∧ (∀ k, F k → W.heap.size ≤ k) ∧ Below W.heap.size W w') := by
  have hm := @run_makeMap Try.prog
  obtain ⟨W1, hW1⟩ : ∃ W1, W1 = W.alloc (.map #[] 0) := ⟨_, rfl⟩
  obtain ⟨W2, hW2⟩ : ∃ W2, W2 = W1.alloc (.cells #[.int .i64 0, .int .i64 0, .slice none 0 0, .map (some W.heap.size)] 59) := ⟨_, rfl⟩
  have HE : Hid (∃ F, WlAt W2 (W.heap.size + 1) F 0 0 [] ∧ (∀ k, F k → W.heap.size ≤ k) ∧ Below W.heap.size W W2) := by
    have hs : W1.heap.size = W.heap.size + 1 := by rw [hW1]; simp
    have hb1 : Below W.heap.size W W1 := by rw [hW1]; exact (Below.refl _ _).alloc (Nat.le_refl _) _
    have hb2 : Below W1.heap.size W1 W2 := by rw [hW2]; exact (Below.refl _ _).alloc (Nat.le_refl _) _
    refine ⟨wlF (W.heap.size + 1) W.heap.size (.slice none 0 0) [], ⟨W.heap.size, .slice none 0 0, [], ⟨?_, ?_, ⟨World.ownsRow_nil _ _ _ _, fun i hi => absurd hi (by simp), List.nodup_nil⟩, (fun i _ hi => absurd hi (by simp)), List.Perm.refl _, List.Pairwise.nil, by simp, by omega, by omega, by simp⟩, fun k => Iff.rfl⟩, fun k hk => ?_, hb1.trans (hb2.mono (by omega))⟩
    · have := heap_alloc_new W1 (.cells #[.int .i64 0, .int .i64 0, .slice none 0 0, .map (some W.heap.size)] 59)
      rw [hs, ← hW2] at this
      exact this
    · have := MqAt.new W
      rw [← hW1] at this
      exact this.below hb2
    · rcases hk with rfl | rfl | e | ⟨q, hq, _⟩
      · omega
      · omega
      · cases e
      · cases hq
  rw [hW1] at hW2
  go_enter Try.func6, Try.ntmps6
  go_wp2
  rw [← hW2]
  go_ret
  exact ⟨_, rfl, HE⟩
end Go.Proofs.Ytdfbnfgemjljgaa
