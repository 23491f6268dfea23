/-
  The texts PgSt, PgTurn, PgCons of this proof.
-/
import Derived.Test.YtjgggialnegddaaGreatPn14
import Derived.Test.YtjgggialnegddaaGreatPn11
import Derived.Test.YtjgggialnegddaaGreatPn02
import Derived.Test.YtjgggialnegddaaGreatPn15
import Derived.Deep.RegionWith
set_option linter.unusedVariables false
set_option maxRecDepth 1000000
namespace Go.Proofs.YtjgggialnegddaaGreat
open Go.RowKit
def at3 (B b g k : Nat) : Prop := k = B ∨ k = b ∨ k = g
structure PgB (W : World) (B b g n : Nat) (hs fs : List Int) : Prop where
 var : W.heap[B]? = some (.cells #[.slice (some ⟨b, 0, none⟩) n n, .slice (some ⟨g, 0, none⟩) fs.length n] 156 (0, 0))
 own : OwnK 3 0 b n n hs W
 row : OwnK 3 0 g fs.length n fs W
 ne1 : B ≠ b
 ne2 : B ≠ g
 ne3 : b ≠ g
 heap : HeapI fs fs.length
 free : FreeOf hs fs
theorem PgB.same {W W' : World} {B b g n : Nat} {hs fs : List Int} (h : PgB W B b g n hs fs) (hF : ∀ k, at3 B b g k → W'.heap[k]? = W.heap[k]?) : PgB W' B b g n hs fs :=
 ⟨(hF B (.inl rfl)).trans h.var, h.own.same (hF b (.inr (.inl rfl))), h.row.same (hF g (.inr (.inr rfl))), h.ne1, h.ne2, h.ne3, h.heap, h.free⟩
theorem PgB.len {W : World} {B b g n : Nat} {hs fs : List Int} (h : PgB W B b g n hs fs) : hs.length = n := h.own.len
theorem PgB.cells {W : World} {B b g n : Nat} {hs fs : List Int} (h : PgB W B b g n hs fs) : W.cell? ⟨B, 0, none⟩ = some (.slice (some ⟨b, 0, none⟩) n n) ∧ W.cell? ⟨B, 1, none⟩ = some (.slice (some ⟨g, 0, none⟩) fs.length n) := cells_two h.var
theorem PgB.old {W : World} {B b g n : Nat} {hs fs : List Int} (h : PgB W B b g n hs fs) : ∀ k, at3 B b g k → k < W.heap.size := by
 rintro k (rfl | rfl | rfl)
 ·exact lt_of_block h.var
 ·exact h.own.lt
 ·exact h.row.lt
def PgX (W : World) (p : Option Addr) (hs : List Int) (F : Nat → Prop) : Prop := ∃ B b g n fs, p = some ⟨B, 0, none⟩ ∧ PgB W B b g n hs fs ∧ F = at3 B b g
structure PgAt (W : World) (p : Option Addr) (hs : List Int) (F : Nat → Prop) : Prop where
 ptr : ∃ g, p = some ⟨g, 0, none⟩
 ok : OkP hs
 old : ∀ k, F k → k < W.heap.size
 rest : PgX W p hs F
theorem PgB.at {W : World} {B b g n : Nat} {hs fs : List Int} (h : PgB W B b g n hs fs) (ho : OkP hs) : PgAt W (some ⟨B, 0, none⟩) hs (at3 B b g) := ⟨⟨B, rfl⟩, ho, h.old, B, b, g, n, fs, rfl, h, rfl⟩
theorem PgAt.same {W W' : World} {p : Option Addr} {hs : List Int} {F : Nat → Prop} (h : PgAt W p hs F) (hs' : W.heap.size ≤ W'.heap.size) (hF : ∀ k, F k → W'.heap[k]? = W.heap[k]?) : PgAt W' p hs F := by
 obtain ⟨B, b, g, n, fs, rfl, hB, rfl⟩ := h.rest
 exact (hB.same hF).at h.ok
theorem PgAt.below {W W' : World} {p : Option Addr} {hs : List Int} {F : Nat → Prop} (h : PgAt W p hs F) (hb : Below W.heap.size W W') : PgAt W' p hs F := h.same hb.size fun k hk => hb.block k (h.old k hk)
theorem PgAt.fb {G : Nat → Prop} {W W' : World} {p : Option Addr} {hs : List Int} {F : Nat → Prop} (h : PgAt W p hs F) (hb : Fb G W W') (hG : ∀ k, F k → ¬ G k) : PgAt W' p hs F := h.same hb.size fun k hk => hb.block k (h.old k hk) (hG k hk)
def PgG (w : World) (F : Nat → Prop) (p : Option Addr) (hs : List Int) (w' : World) : Prop := ∃ F', PgAt w' p hs F' ∧ (∀ k, F' k → F k ∨ w.heap.size ≤ k) ∧ Fb F w w'
theorem PgB.g {w w' : World} {B b g n : Nat} {hs fs : List Int} (h : PgB w' B b g n hs fs) (ho : OkP hs) (hb : Fb (at3 B b g) w w') : PgG w (at3 B b g) (some ⟨B, 0, none⟩) hs w' := ⟨_, h.at ho, fun k hk => .inl hk, hb⟩
theorem pmade_yes {W : World} {B b g n : Nat} {hs fs : List Int} (h : PgB W B b g n hs fs) (ho : OkP hs) : Calls Tryz.prog 88 #[.pointer (some ⟨B, 0, none⟩)] W fun e w' => e = .returned (.bool true) ∧ W = w' := by
 have c0 := h.cells.1
 have hl := h.len
 have h1 := ho.1
 have q1 : 0 < n := by omega
 clear h ho hl h1
 go_enter Tryz.func88, Tryz.ntmps88
 go_wp2
 go_ret
 exact ⟨rfl, rfl⟩
theorem pheld_in {W : World} {B b g n : Nat} {hs fs : List Int} (h : PgB W B b g n hs fs) (ho : OkP hs) (m : Int) : Calls Tryz.prog 116 #[.pointer (some ⟨B, 0, none⟩), .int .i64 m] W fun e w' => e = .returned (.int .i64 (heldZ hs m)) ∧ W = w' := by
 have hl := h.len
 have hn := ho.2.1
 have cB := h.cells.1
 have hM := pmade_yes h ho
 rw [hl] at hn
 by_cases h1 : m < 0
 ·rw [heldZ_out (by omega)]
  clear h hl ho
  go_enter Tryz.func116, Tryz.ntmps116
  go_wp2_with fail
  refine hM.mono ?_
  rintro e w' ⟨rfl, rfl⟩
  go_wp2
  go_ret
  exact ⟨rfl, rfl⟩
 by_cases h2 : (n : Int) ≤ m
 ·rw [heldZ_out (by omega)]
  clear h hl ho
  go_enter Tryz.func116, Tryz.ntmps116
  go_wp2_with fail
  refine hM.mono ?_
  rintro e w' ⟨rfl, rfl⟩
  go_wp2
  go_ret
  exact ⟨rfl, rfl⟩
 obtain ⟨k, rfl⟩ : ∃ k : Nat, m = k := ⟨m.toNat, by omega⟩
 rw [heldZ_at (by omega) (by omega), Int.toNat_natCast]
 have ck := h.own.cell (k := k) (by omega)
 have q1 : k < n := by omega
 clear h hl ho
 generalize hs[k]?.getD 0 = x at *
 go_enter Tryz.func116, Tryz.ntmps116
 go_wp2_with fail
 refine hM.mono ?_
 rintro e w' ⟨rfl, rfl⟩
 go_wp2
 go_ret
 exact ⟨rfl, rfl⟩
theorem plook_in {W : World} {B b g n : Nat} {hs fs : List Int} (h : PgB W B b g n hs fs) (ho : OkP hs) (m : Int) : Calls Tryz.prog 89 #[.pointer (some ⟨B, 0, none⟩), .int .i64 m] W fun e w' => e = .returned (.int .i64 (dropE hs m)) ∧ W = w' := by
 have hM := pmade_yes h ho
 have hH := pheld_in h ho m
 clear h ho
 unfold dropE
 generalize heldZ hs m = x at *
 by_cases h0 : x = 0
 ·subst h0
  rw [if_pos rfl]
  go_enter Tryz.func89, Tryz.ntmps89
  go_wp2_with fail
  refine hM.mono ?_
  rintro e w' ⟨rfl, rfl⟩
  go_wp2_with fail
  refine hH.mono ?_
  rintro e w' ⟨rfl, rfl⟩
  go_wp2
  go_ret
  exact ⟨rfl, rfl⟩
 ·rw [if_neg h0]
  have h0' : (x == 0) = false := by simp [h0]
  go_enter Tryz.func89, Tryz.ntmps89
  go_wp2_with fail
  refine hM.mono ?_
  rintro e w' ⟨rfl, rfl⟩
  go_wp2_with fail
  refine hH.mono ?_
  rintro e w' ⟨rfl, rfl⟩
  go_wp2
  go_ret
  exact ⟨rfl, rfl⟩
theorem pfree_any {F : Nat → Prop} (p : Option Addr) (hs : List Int) (w : World) (h : PgAt w p hs F) : Calls Tryz.prog 154 #[.pointer p] w fun e w' => e = .returned (.int .i64 ((hs.length : Int) - ((usedL hs).length : Int))) ∧ Below w.heap.size w w' := by
 obtain ⟨B, b, g, m, fs, rfl, hB, rfl⟩ := h.rest
 have hM := pmade_yes hB h.ok
 have c1 := hB.cells.2
 have hE : (hs.length : Int) - ((usedL hs).length : Int) = (fs.length : Int) := by have := hB.free.cnt; omega
 rw [hE]
 clear h hB hE
 generalize fs.length = q at *
 go_enter Tryz.func154, Tryz.ntmps154
 go_wp2_with fail
 refine hM.mono ?_
 rintro e w' ⟨rfl, rfl⟩
 go_wp2_with fail
 refine (qlen_any _ _ _ _).mono ?_
 rintro e w' ⟨rfl, rfl⟩
 go_wp2
 go_ret
 exact ⟨rfl, Below.refl _ _⟩
set_option maxHeartbeats 1000000 in
theorem pused_any {F : Nat → Prop} (p : Option Addr) (hs : List Int) (w : World) (h : PgAt w p hs F) : Calls Tryz.prog 61 #[.pointer p] w fun e w' => Gives w (usedL hs).length (usedL hs) e w' := by
 obtain ⟨B, b, g, n, fs, rfl, hB, rfl⟩ := h.rest
 have hM := pmade_yes hB h.ok
 obtain ⟨i0, hi, hz0, hz1, hz2⟩ := info_parts Tryz.info3
 have hl := hB.len
 have hn := h.ok.2.1
 have cB := hB.cells.1
 have HH := hid fun (W : World) (hb : Below w.heap.size w W) => hB.own.stays hb
 have HL := hid fun (k : Nat) => usedK_len hs k
 have HU : Hid (∀ k, usedK hs (k + 1) = if 0 < hs[k]?.getD 0 then usedK hs k ++ [(k : Int)] else usedK hs k) := fun k => rfl
 have HE : Hid (usedK hs n = usedL hs) := by unfold Hid usedL; rw [hl]
 rw [hl] at hn
 clear h hl hB
 obtain ⟨U, hU⟩ : ∃ U : Nat → List Int, U = usedK hs := ⟨_, rfl⟩
 have HU0 : Hid (U 0 = []) := by unfold Hid; rw [hU]; rfl
 rw [← hU] at HL HU HE
 clear hU
 go_enter Tryz.func61, Tryz.ntmps61
 go_wp2_with fail
 refine hM.mono ?_
 rintro e w' ⟨rfl, rfl⟩
 clear hM
 go_wp2_with fail
 go_loopw [3, 14] (fun v i W => ∃ k m : Nat, k ≤ n ∧ i = .int .i64 k ∧ m ≤ k ∧ Hid ((U k).length = m) ∧ Hid (W.ownsRow w.heap.size 3 1 v m ((U k).map (Value.int .i64))) ∧ Hid (Below w.heap.size w W)) (fun _ i _ => n - (intOf i).toNat)
 case atStart => exact ⟨0, 0, Nat.zero_le _, rfl, Nat.le_refl _, by unfold Hid; rw [HU0.out]; rfl, by unfold Hid; rw [HU0.out]; exact World.ownsRow_nil _ _ _ _, Below.refl _ _⟩
 case round =>
 obtain ⟨k, m, hk, rfl, hm, HM, HO, HW⟩ := hrel
 rename World => wr
 have hR := HH.out _ HW.out
 by_cases hlt : k < n
 ·have q1 : (k : Int) < (n : Int) := by omega
  have ck := hR.cell hlt
  have HUk := hid (HU.out k)
  have HLk := hid (HL.out (k + 1))
  clear hR HL HU HU0 HE
  by_cases h0 : 0 < hs[k]?.getD 0
  ·have HE2 : Hid (U (k + 1) = U k ++ [(k : Int)]) := by unfold Hid; rw [HUk.out, if_pos h0]
   have HAl : Hid (Below wr.heap.size wr (wr.alloc (.cells #[.int .i64 (k : Int)] 3))) := (Below.refl _ _).alloc (Nat.le_refl _) _
   have HSz : Hid (w.heap.size ≤ (wr.alloc (.cells #[.int .i64 (k : Int)] 3)).heap.size) := Nat.le_trans HW.out.size HAl.out.size
   clear HUk
   generalize hs[k]?.getD 0 = x at *
   go_wp2_with (at_builtin; refine append_any _ rfl (.tmp 21) (.tmp 23) 41 rfl w.heap.size 3 i0 (.int .i64 0) 8 Tryz.underlying41 hi hz0 hz1 hz2 rfl .i64 _ m (U k) rfl (own_below HO.out HAl.out) _ 1 1 [(k : Int)] rfl (Reads.one _ _ _) (by omega) (by omega) HSz.out ?_; intro v3 w3 hO3 hb3)
   have HO3 : Hid (w3.ownsRow w.heap.size 3 1 v3 (m + 1) ((U (k + 1)).map (Value.int .i64))) := by unfold Hid; rw [HE2.out]; exact hO3
   have HW3 : Hid (Below w.heap.size w w3) := (HW.out.trans (HAl.out.mono HW.out.size)).trans hb3
   have HM3 : Hid ((U (k + 1)).length = m + 1) := by unfold Hid; rw [HE2.out, List.length_append, HM.out]; rfl
   clear hO3 hb3 HO HW HAl HSz HM HE2 ck
   go_wp2_with fail
   go_round
   case rel => exact ⟨k + 1, m + 1, by omega, by go_num, by omega, HM3, HO3, HW3⟩
   case measure => simp [intOf]; omega
  ·have HE2 : Hid (U (k + 1) = U k) := by unfold Hid; rw [HUk.out, if_neg h0]
   have HO3 : Hid (wr.ownsRow w.heap.size 3 1 u3 m ((U (k + 1)).map (Value.int .i64))) := by unfold Hid; rw [HE2.out]; exact HO.out
   have HM3 : Hid ((U (k + 1)).length = m) := by unfold Hid; rw [HE2.out]; exact HM.out
   clear HUk HE2 HO HM
   generalize hs[k]?.getD 0 = x at *
   go_wp2_with fail
   go_round
   case rel => exact ⟨k + 1, m, by omega, by go_num, by omega, HM3, HO3, HW⟩
   case measure => simp [intOf]; omega
 ·obtain rfl : k = n := by omega
  obtain ⟨a5, c5, rfl, hr5⟩ := Reads.own (k := .i64) HO.out
  have HR5 : Hid (Reads .i64 wr a5 (usedL hs).length c5 (usedL hs)) := by unfold Hid; rw [← HE.out, HM.out]; exact hr5
  have HEq : Hid (Ending.returned (.slice a5 m c5) = .returned (.slice a5 (usedL hs).length c5)) := by unfold Hid; rw [← HE.out, HM.out]
  clear hr5 HO HE HM HL HU HU0 hR
  go_wp2
  go_ret
  exact ⟨_, _, HEq.out, HR5.out, HW.out⟩
end Go.Proofs.YtjgggialnegddaaGreat
namespace Go.Proofs.YtjgggialnegddaaGreat
open Go.RowKit
theorem fb_at3b {B b g : Nat} (w : World) (k : Nat) (u : Value) : Fb (at3 B b g) w (w.setCell ⟨b, k, none⟩ u) := Fb.set (F := at3 B b g) (p := ⟨b, k, none⟩) (.inr (.inl rfl)) u
theorem Fb.at23 {B b g : Nat} {w w' : World} (h : Fb (at2 B g) w w') : Fb (at3 B b g) w w' := h.mono fun x hx => hx.elim .inl fun e => .inr (.inr e)
theorem PgB.hq {W : World} {B b g n : Nat} {hs fs : List Int} (h : PgB W B b g n hs fs) : HqAt B 1 g n #[.slice (some ⟨b, 0, none⟩) n n, .slice (some ⟨g, 0, none⟩) fs.length n] 156 fs W := ⟨h.var, rfl, h.row, h.ne2⟩
theorem PgB.set {W : World} {B b g n : Nat} {hs fs : List Int} (h : PgB W B b g n hs fs) (k : Nat) (v : Int) (hf : FreeOf (hs.set k v) fs) : PgB (W.setCell ⟨b, k, none⟩ (.int .i64 v)) B b g n (hs.set k v) fs :=
 ⟨by rw [Below.heap_setCell _ _ _ _ (by exact h.ne1)]; exact h.var, h.own.set k v, h.row.same (Below.heap_setCell _ _ _ _ (by exact fun e => h.ne3 e.symm)), h.ne1, h.ne2, h.ne3, h.heap, hf⟩
theorem pnext_any (B g cap n : Nat) (cs : Array Value) (Tb : TypeId) (ms : List Int) (w : World) (h : HqAt B 1 g cap cs Tb ms w) (hH : HeapI ms ms.length) (hn : ms.length = n + 1) (hcap : cap ≤ 1001) :
  Calls Tryz.prog 159 #[.pointer (some ⟨B, 1, none⟩)] w fun e w' => ∃ x ns, e = .returned (.int .i64 x) ∧ (x :: ns).Perm ms ∧ (∀ y ∈ ms, x ≤ y) ∧ HeapI ns ns.length ∧ HqAt B 1 g cap (csH cs 1 g n cap) Tb ns w' ∧ Fb (at2 B g) w w' := by
 have hC := qhpop_any B 1 g cap n cs Tb ms w h hH hn hcap
 have hta := fun (x : Int) => assert_int x
 clear h hH hn
 generalize csH cs 1 g n cap = cs2 at *
 go_enter Tryz.func159, Tryz.ntmps159
 go_wp2_with fail
 refine hC.mono ?_
 rintro e w1 ⟨x, ns, rfl, h1, h2, h3, h4, h5⟩
 have H1 := hid h1
 have H2 := hid h2
 have H3 := hid h3
 have H4 := hid h4
 have H5 := hid h5
 replace hta := hta x
 clear h1 h2 h3 h4 h5 hC
 go_wp2
 go_ret
 exact ⟨x, ns, rfl, H1.out, H2.out, H3.out, H4.out, H5.out⟩
theorem ptake_any {F : Nat → Prop} (p : Option Addr) (hs : List Int) (w : World) (h : PgAt w p hs F) : Calls Tryz.prog 112 #[.pointer p] w fun e w' => e = .returned (.tuple #[.int .i64 (takeN hs), .int .i64 (takeE hs)]) ∧ PgG w F p (takeH hs) w' := by
 obtain ⟨B, b, g, n, fs, rfl, hB, rfl⟩ := h.rest
 have ho := h.ok
 have hM := pmade_yes hB ho
 have c1 := hB.cells.2
 have hl := hB.len
 have hn := ho.2.1
 rw [hl] at hn
 cases hfs : fs.length with
 | zero =>
  obtain rfl := List.eq_nil_of_length_eq_zero hfs
  have hT := hB.free.none
  have e1 : takeN hs = 0 := by unfold takeN; rw [if_neg hT]
  have e2 : takeE hs = 9 := by unfold takeE; rw [if_neg hT]
  have e3 : takeH hs = hs := by unfold takeH; rw [if_neg hT]
  have HG := hid (hB.g ho (Fb.refl _ w))
  rw [e1, e2, e3]
  rw [hfs] at c1
  clear e1 e2 e3 hT hfs ho h hl hB
  go_enter Tryz.func112, Tryz.ntmps112
  go_wp2_with fail
  refine hM.mono ?_
  rintro e w' ⟨rfl, rfl⟩
  go_wp2_with fail
  refine (qlen_any _ _ _ _).mono ?_
  rintro e w' ⟨rfl, rfl⟩
  go_wp2
  go_ret2
  exact ⟨rfl, HG.out⟩
 | succ m =>
  have hN := pnext_any B g n m _ _ fs w hB.hq hB.heap hfs (by omega)
  rw [hfs] at c1
  have HE : Hid (∀ (x : Int) (ns : List Int) (w1 : World), (x :: ns).Perm fs → (∀ y ∈ fs, x ≤ y) → HeapI ns ns.length → HqAt B 1 g n (csH #[.slice (some ⟨b, 0, none⟩) n n, .slice (some ⟨g, 0, none⟩) fs.length n] 1 g m n) 156 ns w1 → Fb (at2 B g) w w1 →
    ∃ k : Nat, x = k ∧ k < n ∧ takeN hs = k ∧ takeE hs = 0 ∧ w1.cell? ⟨B, 0, none⟩ = some (.slice (some ⟨b, 0, none⟩) n n) ∧ (∃ v, w1.cell? ⟨b, k, none⟩ = some v) ∧ w1.frozen? ⟨b, k, none⟩ = false ∧ PgG w (at3 B b g) (some ⟨B, 0, none⟩) (takeH hs) (w1.setCell ⟨b, k, none⟩ (.int .i64 1))) := by
   intro x ns w1 h1 h2 h3 h4 h5
   obtain ⟨t1, t2, t3⟩ := hB.free.pop h1 h2
   have e3 : takeH hs = hs.set (takeI hs) 1 := by unfold takeH; rw [if_pos t1]
   have hlen : ns.length = m := by have := h1.length_eq; simp at this; omega
   have hv : w1.heap[B]? = some (.cells #[.slice (some ⟨b, 0, none⟩) n n, .slice (some ⟨g, 0, none⟩) ns.length n] 156 (0, 0)) := by rw [h4.var, hlen]; rfl
   have hbk : w1.heap[b]? = w.heap[b]? := h5.block b hB.own.lt (fun hx => hx.elim (fun e => hB.ne1 e.symm) hB.ne3)
   have hb2 : Fb (at3 B b g) w (w1.setCell ⟨b, takeI hs, none⟩ (.int .i64 1)) := h5.at23.tr (fb_at3b _ _ _)
   have hO1 := hB.own.same hbk
   have hPB : PgB (w1.setCell ⟨b, takeI hs, none⟩ (.int .i64 1)) B b g n (takeH hs) ns := by
    rw [e3]
    refine ⟨by rw [Below.heap_setCell _ _ _ _ (by exact hB.ne1)]; exact hv, hO1.set _ _, h4.own.same (Below.heap_setCell _ _ _ _ (by exact fun e => hB.ne3 e.symm)), hB.ne1, hB.ne2, hB.ne3, h3, ?_⟩
    rw [← e3]
    exact t3
   exact ⟨takeI hs, t2, by omega, by unfold takeN; rw [if_pos t1], by unfold takeE; rw [if_pos t1], (cells_two hv).1, ⟨_, hO1.cell (by omega)⟩, hO1.frozen _, hPB.g ho.take hb2⟩
  clear hfs ho h hl hB
  generalize csH #[.slice (some ⟨b, 0, none⟩) n n, .slice (some ⟨g, 0, none⟩) fs.length n] 1 g m n = cs2 at *
  go_enter Tryz.func112, Tryz.ntmps112
  go_wp2_with fail
  refine hM.mono ?_
  rintro e w' ⟨rfl, rfl⟩
  go_wp2_with fail
  refine (qlen_any _ _ _ _).mono ?_
  rintro e w' ⟨rfl, rfl⟩
  go_wp2_with fail
  refine hN.mono ?_
  rintro e w1 ⟨x, ns, rfl, h1, h2, h3, h4, h5⟩
  obtain ⟨k, rfl, hk, e1, e2, c0, ⟨v, ck⟩, fk, hG⟩ := HE.out x ns w1 h1 h2 h3 h4 h5
  have HG := hid hG
  have HEq : Hid (Ending.returned (.tuple #[.int .i64 (k : Int), .int .i64 0]) = .returned (.tuple #[.int .i64 (takeN hs), .int .i64 (takeE hs)])) := by unfold Hid; rw [e1, e2]
  clear h1 h2 h3 h4 h5 hG HE hN hM e1 e2 c1
  go_wp2
  go_ret2
  exact ⟨HEq.out, HG.out⟩
theorem pdrop_any {F : Nat → Prop} (p : Option Addr) (hs : List Int) (n : Int) (w : World) (h : PgAt w p hs F) : Calls Tryz.prog 62 #[.pointer p, .int .i64 n] w fun e w' => e = .returned (.tuple #[.bool (dropB hs n), .int .i64 (dropE hs n)]) ∧ PgG w F p (dropH hs n) w' := by
 obtain ⟨B, b, g, m, fs, rfl, hB, rfl⟩ := h.rest
 have ho := h.ok
 have hC := plook_in hB ho n
 have c0 := hB.cells.1
 have hl := hB.len
 have hn := ho.2.1
 have hd := ho.held n
 have hoo := ho.drop n
 rw [hl] at hn
 by_cases h0 : heldZ hs n = 0
 ·have e1 : dropE hs n = 1 := by unfold dropE; rw [if_pos h0]
  have e2 : dropH hs n = hs := by unfold dropH; rw [if_pos h0]
  have e3 : dropB hs n = false := by unfold dropB; rw [h0]; rfl
  have HG := hid (hB.g ho (Fb.refl _ w))
  rw [e1, e2, e3]
  rw [e1] at hC
  clear h hl hd h0 e1 e2 e3 hoo ho hB
  go_enter Tryz.func62, Tryz.ntmps62
  go_wp2_with fail
  refine hC.mono ?_
  rintro e w' ⟨rfl, rfl⟩
  go_wp2
  go_ret2
  exact ⟨rfl, HG.out⟩
 have e1 : dropE hs n = 0 := by unfold dropE; rw [if_neg h0]
 rw [e1] at hC
 obtain ⟨b0, b1⟩ := heldZ_in h0
 obtain ⟨k, rfl⟩ : ∃ k : Nat, n = k := ⟨n.toNat, by omega⟩
 have hkn : k < m := by omega
 have hat : heldZ hs (k : Int) = hs[k]?.getD 0 := by rw [heldZ_at (by omega) (by omega), Int.toNat_natCast]
 have ck := hB.own.cell hkn
 have fk := hB.own.frozen k
 rw [← hat] at ck
 have e2 : dropH hs (k : Int) = hs.set k (heldZ hs (k : Int) - 1) := by unfold dropH; rw [if_neg h0, Int.toNat_natCast]
 rw [e2] at hoo
 have hne := hB.ne1
 by_cases h1 : heldZ hs (k : Int) = 1
 ·have e3 : dropB hs (k : Int) = true := by unfold dropB; rw [h1]; rfl
  rw [h1] at ck e2 hoo
  have e4 : hs.set k (1 - 1) = hs.set k 0 := rfl
  rw [e4] at e2 hoo
  have hcnt := hB.free.cnt
  have hu := used_set0 (hs := hs) (i := k) (by omega) (by rw [← hat]; omega)
  have hw : (w.setCell ⟨b, k, none⟩ (.int .i64 0)).heap[g]? = w.heap[g]? := Below.heap_setCell _ _ _ _ (by exact fun e => hB.ne3 e.symm)
  have hq1 : HqAt B 1 g m #[.slice (some ⟨b, 0, none⟩) m m, .slice (some ⟨g, 0, none⟩) fs.length m] 156 fs (w.setCell ⟨b, k, none⟩ (.int .i64 0)) := hB.hq.same (Below.heap_setCell _ _ _ _ (by exact hB.ne1)) hw
  have hP := qhpush_any B 1 g m _ _ fs (k : Int) _ hq1 hB.heap (by omega) (by omega)
  have HE : Hid (∀ (ns : List Int) (w1 : World), ns.Perm (fs ++ [(k : Int)]) → HeapI ns ns.length → HqAt B 1 g m (csH #[.slice (some ⟨b, 0, none⟩) m m, .slice (some ⟨g, 0, none⟩) fs.length m] 1 g (fs.length + 1) m) 156 ns w1 → Fb (at2 B g) (w.setCell ⟨b, k, none⟩ (.int .i64 0)) w1 →
    PgG w (at3 B b g) (some ⟨B, 0, none⟩) (hs.set k 0) w1) := by
   intro ns w1 p1 p2 p3 p4
   have hlen : ns.length = fs.length + 1 := by have := p1.length_eq; simpa using this
   have hO1 : OwnK 3 0 b m m (hs.set k 0) w1 := (hB.own.set k 0).same (p4.block b (by rw [World.size_setCell]; exact hB.own.lt) (fun hx => hx.elim (fun e => hB.ne1 e.symm) hB.ne3))
   have hPB : PgB w1 B b g m (hs.set k 0) ns := ⟨by rw [p3.var, hlen]; rfl, hO1, p3.own, hB.ne1, hB.ne2, hB.ne3, p2, hB.free.push (by omega) (by rw [← hat]; omega) p1⟩
   exact hPB.g hoo ((fb_at3b w _ _).tr p4.at23)
  rw [e1, e2, e3]
  have h01 := hB.own.set k 0
  have c2 : (w.setCell ⟨b, k, none⟩ (.int .i64 0)).cell? ⟨b, k, none⟩ = some (.int .i64 ((hs.set k 0)[k]?.getD 0)) := h01.cell hkn
  have e5 : (hs.set k 0)[k]?.getD 0 = 0 := by rw [set_at _ _ (by omega), if_pos rfl]
  rw [e5] at c2
  have c3 : (w.setCell ⟨b, k, none⟩ (.int .i64 0)).cell? ⟨B, 0, none⟩ = some (.slice (some ⟨b, 0, none⟩) m m) := by
   rw [World.cell?_of_block (w := w) (Below.heap_setCell _ _ _ _ (by exact hB.ne1))]; exact c0
  clear h hl e1 e2 e3 e4 e5 hat b0 b1 hoo ho hcnt hu hw hq1 h01 h1 h0 hd hB
  generalize csH #[.slice (some ⟨b, 0, none⟩) m m, .slice (some ⟨g, 0, none⟩) fs.length m] 1 g (fs.length + 1) m = cs2 at *
  generalize hs.set k 0 = hs2 at *
  go_enter Tryz.func62, Tryz.ntmps62
  go_wp2_with fail
  refine hC.mono ?_
  rintro e w' ⟨rfl, rfl⟩
  go_wp2_with fail
  refine hP.mono ?_
  rintro e w1 ⟨rfl, ⟨ns, p1, p2, p3⟩, p4⟩
  have HG := hid (HE.out ns w1 p1 p2 p3 p4)
  clear p1 p2 p3 p4 HE hP c0 c2 c3 ck fk hC
  go_wp2
  go_ret2
  exact ⟨rfl, HG.out⟩
 ·have e3 : dropB hs (k : Int) = false := by unfold dropB; rw [decide_eq_false h1]
  have HG := hid ((hB.set k (heldZ hs (k : Int) - 1) (hB.free.stay (by omega) (by rw [← hat]; omega) (by omega))).g hoo (fb_at3b w _ _))
  rw [e1, e2, e3]
  clear h hl e1 e2 e3 hat b0 b1 hoo ho hB
  generalize heldZ hs (k : Int) = x at *
  have q1 : 0 < x - 1 := by omega
  go_enter Tryz.func62, Tryz.ntmps62
  go_wp2_with fail
  refine hC.mono ?_
  rintro e w' ⟨rfl, rfl⟩
  go_wp2
  go_ret2
  exact ⟨rfl, HG.out⟩
end Go.Proofs.YtjgggialnegddaaGreat
namespace Go.Proofs.YtjgggialnegddaaGreat
open Go.RowKit
theorem make_intsF (w : World) (m : Nat) (hm : m ≤ 1001) : (Instr.makeSlice 154 (.int .i64 (m : Int)) (.int .i64 (m : Int))).run Tryz.prog w = .ok (.slice (some ⟨w.heap.size, 0, none⟩) m m) (w.alloc (.cells (madeCells #[.int .i64 0] m) 3)) := by
 obtain ⟨i0, hi, hz0, hz1, hz2⟩ := info_parts Tryz.info3
 have := run_make (P := Tryz.prog) w 154 3 i0 (.int .i64 0) Tryz.underlying154 hi hz0 .i64 .i64 (m : Int) (m : Int) (by omega) (Int.le_refl _) (by rw [hz2]; omega) (by omega)
 rw [this, hz1, Int.toNat_natCast, Nat.mul_one]
 rfl
theorem heap_upto (n : Nat) : HeapI (upto n) (upto n).length := by
 intro i h0 hi
 rw [upto_len] at hi
 unfold leI ltI gi
 rw [upto_at hi, upto_at (by omega)]
 omega
theorem rowK_upto (n : Nat) : rowK (fun i : Nat => (i : Int)) n = upto n := rfl
theorem pfirst_any (n : Nat) (w : World) (hn : n ≤ 256) : Calls Tryz.prog 104 #[.int .i64 n] w fun e w' => ∃ g, e = .returned (.slice (some ⟨g, 0, none⟩) n n) ∧ w.heap.size ≤ g ∧ OwnK 3 0 g n n (upto n) w' ∧ Below w.heap.size w w' := by
 have hmk := make_intsF w n (by omega)
 obtain ⟨w1, hw1⟩ : ∃ w1, w1 = w.alloc (.cells (madeCells #[.int .i64 0] n) 3) := ⟨_, rfl⟩
 rw [← hw1] at hmk
 obtain ⟨f, hf⟩ : ∃ f : Nat → Int, f = fun i : Nat => (i : Int) := ⟨_, rfl⟩
 have HO0 : Hid (OwnK 3 0 w.heap.size n n (rowK f 0 ++ List.replicate (n - 0) 0) w1) := by
  have := own_made 3 w n (by omega)
  unfold Hid
  rw [hw1]
  exact this.low (Nat.zero_le _)
 have HB0 : Hid (Below w.heap.size w w1) := by unfold Hid; rw [hw1]; exact (Below.refl _ _).alloc (Nat.le_refl _) _
 have HS : Hid (∀ k, k < n → (rowK f k ++ List.replicate (n - k) 0).set k (k : Int) = rowK f (k + 1) ++ List.replicate (n - (k + 1)) 0) := fun k hk => by
  have := rowK_set f hk
  rw [hf] at this ⊢
  exact this
 have HE : Hid (rowK f n ++ List.replicate (n - n) 0 = upto n) := by unfold Hid; rw [hf, rowK_upto]; simp
 clear hw1 hf
 go_enter Tryz.func104, Tryz.ntmps104
 go_wp2_with fail
 go_loopw [9] (fun i W => ∃ k : Nat, k ≤ n ∧ i = .int .i64 k ∧ Hid (OwnK 3 0 w.heap.size n n (rowK f k ++ List.replicate (n - k) 0) W) ∧ Hid (Below w.heap.size w W)) (fun i _ => n - (intOf i).toNat)
 case atStart => exact ⟨0, Nat.zero_le _, rfl, HO0, HB0⟩
 case round =>
 obtain ⟨k, hk, rfl, HO, HB⟩ := hrel
 rename World => wr
 by_cases hlt : k < n
 ·have q1 : (k : Int) < (n : Int) := by omega
  have ck := HO.out.cell hlt
  have fk := HO.out.frozen k
  have HO2 : Hid (OwnK 3 0 w.heap.size n n (rowK f (k + 1) ++ List.replicate (n - (k + 1)) 0) (wr.setCell ⟨w.heap.size, k, none⟩ (.int .i64 (k : Int)))) := by unfold Hid; rw [← HS.out k hlt]; exact HO.out.set k k
  have HB2 : Hid (Below w.heap.size w (wr.setCell ⟨w.heap.size, k, none⟩ (.int .i64 (k : Int)))) := HB.out.setCell (Nat.le_refl _) _
  clear HO HB HS HE HO0 HB0 hmk
  go_wp2_with fail
  go_round
  case rel => exact ⟨k + 1, by omega, by go_num, HO2, HB2⟩
  case measure => simp [intOf]; omega
 ·obtain rfl : k = n := by omega
  have HO2 : Hid (OwnK 3 0 w.heap.size k k (upto k) wr) := by unfold Hid; rw [← HE.out]; exact HO.out
  clear HO HS HE HO0 HB0 hmk
  go_wp2
  go_ret
  exact ⟨_, rfl, Nat.le_refl _, HO2.out, HB.out⟩
theorem pg_new {w W : World} {b g n : Nat} (h0 : 1 ≤ n) (h1 : n ≤ 256) (hb : OwnK 3 0 b n n (List.replicate n 0) W) (hg : OwnK 3 0 g n n (upto n) W) (hn : b ≠ g) (lb : w.heap.size ≤ b) (lg : w.heap.size ≤ g) (hW : Below w.heap.size w W) :
  PgAt (W.alloc (.cells #[.slice (some ⟨b, 0, none⟩) n n, .slice (some ⟨g, 0, none⟩) n n] 156)) (some ⟨W.heap.size, 0, none⟩) (List.replicate n 0) (at3 W.heap.size b g) ∧ (∀ k, at3 W.heap.size b g k → w.heap.size ≤ k) ∧ Below w.heap.size w (W.alloc (.cells #[.slice (some ⟨b, 0, none⟩) n n, .slice (some ⟨g, 0, none⟩) n n] 156)) := by
 have hB : Below W.heap.size W (W.alloc (.cells #[.slice (some ⟨b, 0, none⟩) n n, .slice (some ⟨g, 0, none⟩) n n] 156)) := (Below.refl _ _).alloc (Nat.le_refl _) _
 have b1 := hb.lt
 have g1 := hg.lt
 have s1 := hW.size
 have hP : PgB (W.alloc (.cells #[.slice (some ⟨b, 0, none⟩) n n, .slice (some ⟨g, 0, none⟩) n n] 156)) W.heap.size b g n (List.replicate n 0) (upto n) := by
  refine ⟨?_, hb.stays hB, ?_, by omega, by omega, hn, heap_upto n, free_new n⟩
  ·rw [upto_len]; exact heap_alloc_new W _
  ·rw [upto_len]; exact hg.stays hB
 refine ⟨hP.at (okp_new h0 h1), ?_, hW.trans (hB.mono s1)⟩
 rintro k (rfl | rfl | rfl) <;> omega
def NewG (w : World) (n B : Nat) (W : World) : Prop := ∃ F, PgAt W (some ⟨B, 0, none⟩) (List.replicate n 0) F ∧ (∀ k, F k → w.heap.size ≤ k) ∧ Below w.heap.size w W
theorem pg_newA {w w2 : World} {g n : Nat} (h0 : 1 ≤ n) (h1 : n ≤ 256) (lg : (w.alloc (.cells (madeCells #[.int .i64 0] n) 3)).drew.heap.size ≤ g) (hO : OwnK 3 0 g n n (upto n) w2)
  (hb : Below (w.alloc (.cells (madeCells #[.int .i64 0] n) 3)).drew.heap.size (w.alloc (.cells (madeCells #[.int .i64 0] n) 3)).drew w2) :
  NewG w n w2.heap.size (w2.alloc (.cells #[.slice (some ⟨w.heap.size, 0, none⟩) n n, .slice (some ⟨g, 0, none⟩) n n] 156)) := by
 have hM : OwnK 3 0 w.heap.size n n (List.replicate n 0) (w.alloc (.cells (madeCells #[.int .i64 0] n) 3)).drew := (own_made 3 w n (by omega)).low (Nat.zero_le _)
 have hS : (w.alloc (.cells (madeCells #[.int .i64 0] n) 3)).drew.heap.size = w.heap.size + 1 := World.size_alloc _ _
 have hB : Below w.heap.size w (w.alloc (.cells (madeCells #[.int .i64 0] n) 3)).drew := ((Below.refl _ _).alloc (Nat.le_refl _) _).drew
 obtain ⟨a1, a2, a3⟩ := pg_new h0 h1 (hM.stays hb) hO (by omega) (Nat.le_refl _) (by omega) (hB.trans (hb.mono hB.size))
 exact ⟨_, a1, a2, a3⟩
theorem pg_newB {w w2 : World} {g n : Nat} (h0 : 1 ≤ n) (h1 : n ≤ 256) (lg : w.drew.heap.size ≤ g) (hO : OwnK 3 0 g n n (upto n) w2) (hb : Below w.drew.heap.size w.drew w2) :
  NewG w n (w2.heap.size + 1) ((w2.alloc (.cells (madeCells #[.int .i64 0] n) 3)).alloc (.cells #[.slice (some ⟨w2.heap.size, 0, none⟩) n n, .slice (some ⟨g, 0, none⟩) n n] 156)) := by
 have hM : OwnK 3 0 w2.heap.size n n (List.replicate n 0) (w2.alloc (.cells (madeCells #[.int .i64 0] n) 3)) := (own_made 3 w2 n (by omega)).low (Nat.zero_le _)
 have hS : (w2.alloc (.cells (madeCells #[.int .i64 0] n) 3)).heap.size = w2.heap.size + 1 := World.size_alloc _ _
 have hB0 : Below w.heap.size w w2 := (Below.refl _ _).drew.trans hb
 have hB : Below w2.heap.size w2 (w2.alloc (.cells (madeCells #[.int .i64 0] n) 3)) := (Below.refl _ _).alloc (Nat.le_refl _) _
 have lt := hO.lt
 obtain ⟨a1, a2, a3⟩ := pg_new h0 h1 hM (hO.stays hB) (by omega) hB0.size lg (hB0.trans (hB.mono hB0.size))
 rw [hS] at a1 a2
 exact ⟨_, a1, a2, a3⟩
theorem pnew_yes (n : Nat) (w : World) (h0 : 1 ≤ n) (h1 : n ≤ 256) : Calls Tryz.prog 77 #[.int .i64 n] w fun e w' => ∃ g F, e = .returned (.tuple #[.pointer (some ⟨g, 0, none⟩), .int .i64 0]) ∧ PgAt w' (some ⟨g, 0, none⟩) (List.replicate n 0) F ∧ (∀ k, F k → w.heap.size ≤ k) ∧ Below w.heap.size w w' := by
 have q1 : ¬ (n : Int) < 1 := by omega
 have q2 : ¬ (256 : Int) < (n : Int) := by omega
 have hmk := fun (W : World) => make_intsI W n (by omega)
 have HF := hid fun (W : World) => pfirst_any n W h1
 go_enter Tryz.func77, Tryz.ntmps77
 go_wp2_with fail
 go_region_with (go_at_call 104; refine (HF.out _).mono ?_; rintro e w2 ⟨g, rfl, lg, hO, hb⟩; have HO := hid hO; have HB := hid hb; have LG := hid lg; clear hO hb lg)
 ·go_wp2_with fail
  obtain ⟨F, a1, a2, a3⟩ := pg_newA h0 h1 LG.out HO.out HB.out
  clear hmk HF HO HB LG
  go_ret2
  exact ⟨_, F, rfl, a1, a2, a3⟩
 ·go_wp2_with fail
  obtain ⟨F, a1, a2, a3⟩ := pg_newB h0 h1 LG.out HO.out HB.out
  clear hmk HF HO HB LG
  go_ret2
  exact ⟨_, F, rfl, a1, a2, a3⟩
end Go.Proofs.YtjgggialnegddaaGreat
