/-
  Package page: contracts of what turns a pool: next, Take, Hold, Drop.
-/
import Derived.Test.YtdmakboapchhnaaPgSt
namespace Go.Proofs.Ytdmakboapchhnaa
open Go.RowKit
set_option linter.unusedVariables false
set_option maxRecDepth 1000000

theorem fb_at3b {B b g : Nat} (w : World) (k : Nat) (u : Value) : Fb (at3 B b g) w (w.setCell ⟨b, k, none⟩ u) := Fb.set (F := at3 B b g) (p := ⟨b, k, none⟩) (.inr (.inl rfl)) u
theorem Fb.at23 {B b g : Nat} {w w' : World} (h : Fb (at2 B g) w w') : Fb (at3 B b g) w w' := h.mono fun x hx => hx.elim .inl fun e => .inr (.inr e)
/-- The free pages as a heap. -/
theorem PgB.hq {W : World} {B b g n : Nat} {hs fs : List Int} (h : PgB W B b g n hs fs) : HqAt B 1 g n #[.slice (some ⟨b, 0, none⟩) n n, .slice (some ⟨g, 0, none⟩) fs.length n] 53 fs W := ⟨h.var, rfl, h.row, h.ne2⟩
/-- How often one is held is set. -/
theorem PgB.set {W : World} {B b g n : Nat} {hs fs : List Int} (h : PgB W B b g n hs fs) (k : Nat) (v : Int) (hf : FreeOf (hs.set k v) fs) : PgB (W.setCell ⟨b, k, none⟩ (.int .i64 v)) B b g n (hs.set k v) fs :=
  ⟨by rw [Below.heap_setCell _ _ _ _ (by exact h.ne1)]; exact h.var, h.own.set k v, h.row.same (Below.heap_setCell _ _ _ _ (by exact fun e => h.ne3 e.symm)), h.ne1, h.ne2, h.ne3, h.heap, hf⟩
theorem pnext_any (B g cap n : Nat) (cs : Array Value) (Tb : TypeId) (ms : List Int) (w : World) (h : HqAt B 1 g cap cs Tb ms w) (hH : HeapI ms ms.length) (hn : ms.length = n + 1) (hcap : cap ≤ 1001) :
    Calls Try.prog 27 #[.pointer (some ⟨B, 1, none⟩)] w fun e w' => ∃ x ns, e = .returned (.int .i64 x) ∧ (x :: ns).Perm ms ∧ (∀ y ∈ ms, x ≤ y) ∧ HeapI ns ns.length ∧ HqAt B 1 g cap (csH cs 1 g n cap) Tb ns w' ∧ Fb (at2 B g) w w' := by
  have hC := qhpop_any B 1 g cap n cs Tb ms w h hH hn hcap
  have hta := fun (x : Int) => assert_int x
  clear h hH hn
  generalize csH cs 1 g n cap = cs2 at *
  go_enter Try.func27, Try.ntmps27
  go_wp2_with fail
  refine hC.mono ?_
  rintro e w1 ⟨x, ns, rfl, h1, h2, h3, h4, h5⟩
  have H1 := hid h1
  have H2 := hid h2
  have H3 := hid h3
  have H4 := hid h4
  have H5 := hid h5
  replace hta := hta x
  clear h1 h2 h3 h4 h5 hC
  go_wp2
  go_ret
  exact ⟨x, ns, rfl, H1.out, H2.out, H3.out, H4.out, H5.out⟩
theorem ptake_any {F : Nat → Prop} (p : Option Addr) (hs : List Int) (w : World) (h : PgAt w p hs F) : Calls Try.prog 14 #[.pointer p] w fun e w' => e = .returned (.tuple #[.int .i64 (takeN hs), .int .i64 (takeE hs)]) ∧ PgG w F p (takeH hs) w' := by
  obtain ⟨B, b, g, n, fs, rfl, hB, rfl⟩ := h.rest
  have ho := h.ok
  have hM := pmade_yes hB ho
  have c1 := hB.cells.2
  have hl := hB.len
  have hn := ho.2.1
  rw [hl] at hn
  cases hfs : fs.length with
  | zero =>
    obtain rfl := List.eq_nil_of_length_eq_zero hfs
    have hT := hB.free.none
    have e1 : takeN hs = 0 := by unfold takeN; rw [if_neg hT]
    have e2 : takeE hs = 9 := by unfold takeE; rw [if_neg hT]
    have e3 : takeH hs = hs := by unfold takeH; rw [if_neg hT]
    have HG := hid (hB.g ho (Fb.refl _ w))
    rw [e1, e2, e3]
    rw [hfs] at c1
    clear e1 e2 e3 hT hfs ho h hl hB
    go_enter Try.func14, Try.ntmps14
    go_wp2_with fail
    refine hM.mono ?_
    rintro e w' ⟨rfl, rfl⟩
    go_wp2_with fail
    refine (qlen_any _ _ _ _).mono ?_
    rintro e w' ⟨rfl, rfl⟩
    go_wp2
    go_ret2
    exact ⟨rfl, HG.out⟩
  | succ m =>
    have hN := pnext_any B g n m _ _ fs w hB.hq hB.heap hfs (by omega)
    rw [hfs] at c1
    have HE : Hid (∀ (x : Int) (ns : List Int) (w1 : World), (x :: ns).Perm fs → (∀ y ∈ fs, x ≤ y) → HeapI ns ns.length → HqAt B 1 g n (csH #[.slice (some ⟨b, 0, none⟩) n n, .slice (some ⟨g, 0, none⟩) fs.length n] 1 g m n) 53 ns w1 → Fb (at2 B g) w w1 →
        ∃ k : Nat, x = k ∧ k < n ∧ takeN hs = k ∧ takeE hs = 0 ∧ w1.cell? ⟨B, 0, none⟩ = some (.slice (some ⟨b, 0, none⟩) n n) ∧ (∃ v, w1.cell? ⟨b, k, none⟩ = some v) ∧ w1.frozen? ⟨b, k, none⟩ = false ∧ PgG w (at3 B b g) (some ⟨B, 0, none⟩) (takeH hs) (w1.setCell ⟨b, k, none⟩ (.int .i64 1))) := by
      intro x ns w1 h1 h2 h3 h4 h5
      obtain ⟨t1, t2, t3⟩ := hB.free.pop h1 h2
      have e3 : takeH hs = hs.set (takeI hs) 1 := by unfold takeH; rw [if_pos t1]
      have hlen : ns.length = m := by have := h1.length_eq; simp at this; omega
      have hv : w1.heap[B]? = some (.cells #[.slice (some ⟨b, 0, none⟩) n n, .slice (some ⟨g, 0, none⟩) ns.length n] 53 (0, 0)) := by rw [h4.var, hlen]; rfl
      have hbk : w1.heap[b]? = w.heap[b]? := h5.block b hB.own.lt (fun hx => hx.elim (fun e => hB.ne1 e.symm) hB.ne3)
      have hb2 : Fb (at3 B b g) w (w1.setCell ⟨b, takeI hs, none⟩ (.int .i64 1)) := h5.at23.tr (fb_at3b _ _ _)
      have hO1 := hB.own.same hbk
      have hPB : PgB (w1.setCell ⟨b, takeI hs, none⟩ (.int .i64 1)) B b g n (takeH hs) ns := by
        rw [e3]
        refine ⟨by rw [Below.heap_setCell _ _ _ _ (by exact hB.ne1)]; exact hv, hO1.set _ _, h4.own.same (Below.heap_setCell _ _ _ _ (by exact fun e => hB.ne3 e.symm)), hB.ne1, hB.ne2, hB.ne3, h3, ?_⟩
        rw [← e3]
        exact t3
      exact ⟨takeI hs, t2, by omega, by unfold takeN; rw [if_pos t1], by unfold takeE; rw [if_pos t1], (cells_two hv).1, ⟨_, hO1.cell (by omega)⟩, hO1.frozen _, hPB.g ho.take hb2⟩
    clear hfs ho h hl hB
    generalize csH #[.slice (some ⟨b, 0, none⟩) n n, .slice (some ⟨g, 0, none⟩) fs.length n] 1 g m n = cs2 at *
    go_enter Try.func14, Try.ntmps14
    go_wp2_with fail
    refine hM.mono ?_
    rintro e w' ⟨rfl, rfl⟩
    go_wp2_with fail
    refine (qlen_any _ _ _ _).mono ?_
    rintro e w' ⟨rfl, rfl⟩
    go_wp2_with fail
    refine hN.mono ?_
    rintro e w1 ⟨x, ns, rfl, h1, h2, h3, h4, h5⟩
    obtain ⟨k, rfl, hk, e1, e2, c0, ⟨v, ck⟩, fk, hG⟩ := HE.out x ns w1 h1 h2 h3 h4 h5
    have HG := hid hG
    have HEq : Hid (Ending.returned (.tuple #[.int .i64 (k : Int), .int .i64 0]) = .returned (.tuple #[.int .i64 (takeN hs), .int .i64 (takeE hs)])) := by unfold Hid; rw [e1, e2]
    clear h1 h2 h3 h4 h5 hG HE hN hM e1 e2 c1
    go_wp2
    go_ret2
    exact ⟨HEq.out, HG.out⟩
theorem phold_any {F : Nat → Prop} (p : Option Addr) (hs : List Int) (n : Int) (w : World) (h : PgAt w p hs F) : Calls Try.prog 10 #[.pointer p, .int .i64 n] w fun e w' => e = .returned (.int .i64 (holdE hs n)) ∧ PgG w F p (holdH hs n) w' := by
  obtain ⟨B, b, g, m, fs, rfl, hB, rfl⟩ := h.rest
  have ho := h.ok
  have hC := plook_in hB ho n
  have c0 := hB.cells.1
  have hl := hB.len
  have hn := ho.2.1
  have hd := ho.held n
  have hoo := ho.hold n
  rw [hl] at hn
  by_cases h0 : heldZ hs n = 0
  · have e1 : holdE hs n = 1 := by unfold holdE; rw [if_pos h0]
    have e2 : holdH hs n = hs := by unfold holdH; rw [if_pos (.inl h0)]
    have e3 : dropE hs n = 1 := by unfold dropE; rw [if_pos h0]
    have HG := hid (hB.g ho (Fb.refl _ w))
    rw [e1, e2]
    rw [e3] at hC
    clear h hl hd h0 e1 e2 e3 hoo ho hB
    go_enter Try.func10, Try.ntmps10
    go_wp2_with fail
    refine hC.mono ?_
    rintro e w' ⟨rfl, rfl⟩
    go_wp2
    go_ret
    exact ⟨rfl, HG.out⟩
  have e3 : dropE hs n = 0 := by unfold dropE; rw [if_neg h0]
  rw [e3] at hC
  obtain ⟨b0, b1⟩ := heldZ_in h0
  obtain ⟨k, rfl⟩ : ∃ k : Nat, n = k := ⟨n.toNat, by omega⟩
  have hkn : k < m := by omega
  have hat : heldZ hs (k : Int) = hs[k]?.getD 0 := by rw [heldZ_at (by omega) (by omega), Int.toNat_natCast]
  have ck := hB.own.cell hkn
  have fk := hB.own.frozen k
  rw [← hat] at ck
  by_cases h3 : 2147483647 ≤ heldZ hs (k : Int)
  · have e1 : holdE hs (k : Int) = 5 := by unfold holdE; rw [if_neg h0, if_pos h3]
    have e2 : holdH hs (k : Int) = hs := by unfold holdH; rw [if_pos (.inr h3)]
    have HG := hid (hB.g ho (Fb.refl _ w))
    rw [e1, e2]
    clear h hl e1 e2 e3 hat b0 b1 hoo ho hB
    generalize heldZ hs (k : Int) = x at *
    go_enter Try.func10, Try.ntmps10
    go_wp2_with fail
    refine hC.mono ?_
    rintro e w' ⟨rfl, rfl⟩
    go_wp2
    go_ret
    exact ⟨rfl, HG.out⟩
  · have e1 : holdE hs (k : Int) = 0 := by unfold holdE; rw [if_neg h0, if_neg h3]
    have e2 : holdH hs (k : Int) = hs.set k (heldZ hs (k : Int) + 1) := by unfold holdH; rw [if_neg (by omega), Int.toNat_natCast]
    rw [e2] at hoo
    have HG := hid ((hB.set k (heldZ hs (k : Int) + 1) (hB.free.stay (by omega) (by rw [← hat]; omega) (by omega))).g hoo (fb_at3b w _ _))
    rw [e1, e2]
    clear h hl e1 e2 e3 hat b0 b1 hoo ho hB
    generalize heldZ hs (k : Int) = x at *
    go_enter Try.func10, Try.ntmps10
    go_wp2_with fail
    refine hC.mono ?_
    rintro e w' ⟨rfl, rfl⟩
    go_wp2
    go_ret
    exact ⟨rfl, HG.out⟩
theorem pdrop_any {F : Nat → Prop} (p : Option Addr) (hs : List Int) (n : Int) (w : World) (h : PgAt w p hs F) : Calls Try.prog 12 #[.pointer p, .int .i64 n] w fun e w' => e = .returned (.tuple #[.bool (dropB hs n), .int .i64 (dropE hs n)]) ∧ PgG w F p (dropH hs n) w' := by
  obtain ⟨B, b, g, m, fs, rfl, hB, rfl⟩ := h.rest
  have ho := h.ok
  have hC := plook_in hB ho n
  have c0 := hB.cells.1
  have hl := hB.len
  have hn := ho.2.1
  have hd := ho.held n
  have hoo := ho.drop n
  rw [hl] at hn
  by_cases h0 : heldZ hs n = 0
  · have e1 : dropE hs n = 1 := by unfold dropE; rw [if_pos h0]
    have e2 : dropH hs n = hs := by unfold dropH; rw [if_pos h0]
    have e3 : dropB hs n = false := by unfold dropB; rw [h0]; rfl
    have HG := hid (hB.g ho (Fb.refl _ w))
    rw [e1, e2, e3]
    rw [e1] at hC
    clear h hl hd h0 e1 e2 e3 hoo ho hB
    go_enter Try.func12, Try.ntmps12
    go_wp2_with fail
    refine hC.mono ?_
    rintro e w' ⟨rfl, rfl⟩
    go_wp2
    go_ret2
    exact ⟨rfl, HG.out⟩
  have e1 : dropE hs n = 0 := by unfold dropE; rw [if_neg h0]
  rw [e1] at hC
  obtain ⟨b0, b1⟩ := heldZ_in h0
  obtain ⟨k, rfl⟩ : ∃ k : Nat, n = k := ⟨n.toNat, by omega⟩
  have hkn : k < m := by omega
  have hat : heldZ hs (k : Int) = hs[k]?.getD 0 := by rw [heldZ_at (by omega) (by omega), Int.toNat_natCast]
  have ck := hB.own.cell hkn
  have fk := hB.own.frozen k
  rw [← hat] at ck
  have e2 : dropH hs (k : Int) = hs.set k (heldZ hs (k : Int) - 1) := by unfold dropH; rw [if_neg h0, Int.toNat_natCast]
  rw [e2] at hoo
  have hne := hB.ne1
  by_cases h1 : heldZ hs (k : Int) = 1
  · have e3 : dropB hs (k : Int) = true := by unfold dropB; rw [h1]; rfl
    rw [h1] at ck e2 hoo
    have e4 : hs.set k (1 - 1) = hs.set k 0 := rfl
    rw [e4] at e2 hoo
    have hcnt := hB.free.cnt
    have hu := used_set0 (hs := hs) (i := k) (by omega) (by rw [← hat]; omega)
    have hw : (w.setCell ⟨b, k, none⟩ (.int .i64 0)).heap[g]? = w.heap[g]? := Below.heap_setCell _ _ _ _ (by exact fun e => hB.ne3 e.symm)
    have hq1 : HqAt B 1 g m #[.slice (some ⟨b, 0, none⟩) m m, .slice (some ⟨g, 0, none⟩) fs.length m] 53 fs (w.setCell ⟨b, k, none⟩ (.int .i64 0)) := hB.hq.same (Below.heap_setCell _ _ _ _ (by exact hB.ne1)) hw
    have hP := qhpush_any B 1 g m _ _ fs (k : Int) _ hq1 hB.heap (by omega) (by omega)
    have HE : Hid (∀ (ns : List Int) (w1 : World), ns.Perm (fs ++ [(k : Int)]) → HeapI ns ns.length → HqAt B 1 g m (csH #[.slice (some ⟨b, 0, none⟩) m m, .slice (some ⟨g, 0, none⟩) fs.length m] 1 g (fs.length + 1) m) 53 ns w1 → Fb (at2 B g) (w.setCell ⟨b, k, none⟩ (.int .i64 0)) w1 →
        PgG w (at3 B b g) (some ⟨B, 0, none⟩) (hs.set k 0) w1) := by
      intro ns w1 p1 p2 p3 p4
      have hlen : ns.length = fs.length + 1 := by have := p1.length_eq; simpa using this
      have hO1 : OwnK 3 0 b m m (hs.set k 0) w1 := (hB.own.set k 0).same (p4.block b (by rw [World.size_setCell]; exact hB.own.lt) (fun hx => hx.elim (fun e => hB.ne1 e.symm) hB.ne3))
      have hPB : PgB w1 B b g m (hs.set k 0) ns := ⟨by rw [p3.var, hlen]; rfl, hO1, p3.own, hB.ne1, hB.ne2, hB.ne3, p2, hB.free.push (by omega) (by rw [← hat]; omega) p1⟩
      exact hPB.g hoo ((fb_at3b w _ _).tr p4.at23)
    rw [e1, e2, e3]
    have h01 := hB.own.set k 0
    have c2 : (w.setCell ⟨b, k, none⟩ (.int .i64 0)).cell? ⟨b, k, none⟩ = some (.int .i64 ((hs.set k 0)[k]?.getD 0)) := h01.cell hkn
    have e5 : (hs.set k 0)[k]?.getD 0 = 0 := by rw [set_at _ _ (by omega), if_pos rfl]
    rw [e5] at c2
    have c3 : (w.setCell ⟨b, k, none⟩ (.int .i64 0)).cell? ⟨B, 0, none⟩ = some (.slice (some ⟨b, 0, none⟩) m m) := by
      rw [World.cell?_of_block (w := w) (Below.heap_setCell _ _ _ _ (by exact hB.ne1))]; exact c0
    clear h hl e1 e2 e3 e4 e5 hat b0 b1 hoo ho hcnt hu hw hq1 h01 h1 h0 hd hB
    generalize csH #[.slice (some ⟨b, 0, none⟩) m m, .slice (some ⟨g, 0, none⟩) fs.length m] 1 g (fs.length + 1) m = cs2 at *
    generalize hs.set k 0 = hs2 at *
    go_enter Try.func12, Try.ntmps12
    go_wp2_with fail
    refine hC.mono ?_
    rintro e w' ⟨rfl, rfl⟩
    go_wp2_with fail
    refine hP.mono ?_
    rintro e w1 ⟨rfl, ⟨ns, p1, p2, p3⟩, p4⟩
    have HG := hid (HE.out ns w1 p1 p2 p3 p4)
    clear p1 p2 p3 p4 HE hP c0 c2 c3 ck fk hC
    go_wp2
    go_ret2
    exact ⟨rfl, HG.out⟩
  · have e3 : dropB hs (k : Int) = false := by unfold dropB; rw [decide_eq_false h1]
    have HG := hid ((hB.set k (heldZ hs (k : Int) - 1) (hB.free.stay (by omega) (by rw [← hat]; omega) (by omega))).g hoo (fb_at3b w _ _))
    rw [e1, e2, e3]
    clear h hl e1 e2 e3 hat b0 b1 hoo ho hB
    generalize heldZ hs (k : Int) = x at *
    have q1 : 0 < x - 1 := by omega
    go_enter Try.func12, Try.ntmps12
    go_wp2_with fail
    refine hC.mono ?_
    rintro e w' ⟨rfl, rfl⟩
    go_wp2
    go_ret2
    exact ⟨rfl, HG.out⟩
end Go.Proofs.Ytdmakboapchhnaa
