/-
  A memory that is laid layer by layer (MemUp); contract: Cut.
-/
import Derived.Test.YtehmdlipacbpfaaGreatMems2
namespace Go.Proofs.YtehmdlipacbpfaaGreat
open Go.RowKit
set_option linter.unusedVariables false
set_option maxRecDepth 1000000

/-- Of a memory of L layers the first k are laid. -/
structure MemUp (w : World) (B g L k : Nat) (F : Nat → KV) (ps : List Hp) (W : World) : Prop where
  var : W.heap[B]? = some (.cells #[.slice (some ⟨g, 0, none⟩) L L] 74 (0, 0))
  own : OwnP w.heap.size g L ps W
  lowB : w.heap.size ≤ B
  rows : ∀ i, i < k → TbH W (pk ps i).1 (F i).1 ∧ TbH W (pk ps i).2 (F i).2
  old : Below w.heap.size w W
theorem MemUp.below {w : World} {B g L k : Nat} {F : Nat → KV} {ps : List Hp} {W W' : World} (h : MemUp w B g L k F ps W) (hb : Below W.heap.size W W') : MemUp w B g L k F ps W' :=
  ⟨block_below h.var hb, h.own.stays hb, h.lowB, fun i hi => ⟨(h.rows i hi).1.below hb, (h.rows i hi).2.below hb⟩, h.old.trans (hb.mono h.old.size)⟩
theorem MemUp.apart {w : World} {B g L k : Nat} {F : Nat → KV} {ps : List Hp} {W : World} (h : MemUp w B g L k F ps W) : B ≠ g := by
  intro e
  obtain ⟨cur, hc⟩ := h.own.blk
  rw [← e, h.var] at hc
  simp at hc
theorem MemUp.step {w : World} {B g L k : Nat} {F : Nat → KV} {ps : List Hp} {W : World} (h : MemUp w B g L k F ps W) (hk : k < L) (x y : Hd) (hx : TbH W x (F k).1) (hy : TbH W y (F k).2) :
    MemUp w B g L (k + 1) F (ps.set k (x, y)) ((W.setCell ⟨g, k * 2, none⟩ (hdV x)).setCell ⟨g, k * 2 + 1, none⟩ (hdV y)) := by
  have hne := h.apart
  obtain ⟨cur, hc⟩ := h.own.blk
  have hl := h.own.len
  have hK : Kp 77 W ((W.setCell ⟨g, k * 2, none⟩ (hdV x)).setCell ⟨g, k * 2 + 1, none⟩ (hdV y)) := (Kp.set hc _).trans (Kp.set (row_setCell hc) _)
  refine ⟨?_, h.own.set k x y, h.lowB, fun i hi => ?_, (h.old.setCell h.own.base _).setCell h.own.base _⟩
  · rw [Below.heap_setCell _ _ _ _ (by exact hne), Below.heap_setCell _ _ _ _ (by exact hne)]
    exact h.var
  · by_cases e : i = k
    · subst e
      have : pk (ps.set i (x, y)) i = (x, y) := by simp [pk, (by omega : i < ps.length)]
      rw [this]
      exact ⟨hx.keep hK (by decide) (by decide), hy.keep hK (by decide) (by decide)⟩
    · have : pk (ps.set k (x, y)) i = pk ps i := by unfold pk; rw [List.getElem?_set_ne (by omega)]
      rw [this]
      obtain ⟨h1, h2⟩ := h.rows i (by omega)
      exact ⟨h1.keep hK (by decide) (by decide), h2.keep hK (by decide) (by decide)⟩
theorem MemUp.kept {w : World} {B g L k : Nat} {F : Nat → KV} {ps : List Hp} {W : World} (h : MemUp w B g L k F ps W) (j : Nat) (x y : Value) : Kp 77 W ((W.setCell ⟨g, j, none⟩ x).setCell ⟨g, j + 1, none⟩ y) := by
  obtain ⟨cur, hc⟩ := h.own.blk
  exact (Kp.set hc _).trans (Kp.set (row_setCell hc) _)
theorem MemUp.done {w : World} {B g L : Nat} {F : Nat → KV} {ps : List Hp} {W : World} (h : MemUp w B g L L F ps W) {M : List KV} (hl : M.length = L) (hF : ∀ i, i < L → kv M i = F i) : MemB W B g M ps := by
  subst hl
  exact ⟨h.var, h.own.low (Nat.zero_le _), fun i hi => by rw [hF i hi]; exact h.rows i hi⟩
theorem MemUp.start {w w' : World} {B g L : Nat} {ps : List Hp} (F : Nat → KV) (hB : w.heap.size ≤ B) (hg : w.heap.size ≤ g) (h : MemB w' B g (noneM L) ps) (hb : Below w.heap.size w w') : MemUp w B g L 0 F ps w' := by
  have hv := h.var
  have ho := h.own
  rw [noneM_len] at hv ho
  exact ⟨hv, own_up ho hg, hB, fun i hi => absurd hi (by omega), hb⟩
/-- Each layer has as many keys and values. -/
def Even (M : List KV) (q : Nat) : Prop := ∀ i, i < M.length → (kv M i).1.length = q ∧ (kv M i).2.length = q
/-- How many places a cut leaves. -/
def cutN (n : Int) (q : Nat) : Nat := (max 0 (min n q)).toNat

theorem held_cut0 {wr W1 W : World} {B : Nat} {v0 v1 v2 : Value} {T T2 : TypeId} (hv : wr.heap[B]? = some (.cells #[v0] T (0, 0))) (hx : W1.heap[wr.heap.size]? = some (.cells #[v1, v2] T2 (0, 0))) (h1 : Below wr.heap.size wr W1) (hb : Below W1.heap.size W1 W) :
    W.cell? ⟨B, 0, none⟩ = some v0 ∧ W.cell? ⟨wr.heap.size, 0, none⟩ = some v1 ∧ W.cell? ⟨wr.heap.size, 1, none⟩ = some v2 := by
  have e1 := block_below (block_below hv h1) hb
  have e2 := block_below hx hb
  exact ⟨by rw [cell_of_row _ _ _ _ _ _ e1]; rfl, by rw [cell_of_row _ _ _ _ _ _ e2]; rfl, by rw [cell_of_row _ _ _ _ _ _ e2]; rfl⟩
theorem held_cut {wr W1 W : World} {B g : Nat} {v0 v1 v2 : Value} {T T2 : TypeId} (hv : wr.heap[B]? = some (.cells #[v0] T (0, 0))) (hx : W1.heap[wr.heap.size]? = some (.cells #[v1, v2] T2 (0, 0))) (hB : B ≠ g) (hg : g ≠ wr.heap.size) (h1 : Below wr.heap.size wr W1) (hb : Below W1.heap.size W1 W) (j : Nat) (x y : Value) :
    ((W.setCell ⟨g, j, none⟩ x).setCell ⟨g, j + 1, none⟩ y).cell? ⟨B, 0, none⟩ = some v0 ∧ ((W.setCell ⟨g, j, none⟩ x).setCell ⟨g, j + 1, none⟩ y).cell? ⟨wr.heap.size, 0, none⟩ = some v1 ∧ ((W.setCell ⟨g, j, none⟩ x).setCell ⟨g, j + 1, none⟩ y).cell? ⟨wr.heap.size, 1, none⟩ = some v2 := by
  have e1 : ((W.setCell ⟨g, j, none⟩ x).setCell ⟨g, j + 1, none⟩ y).heap[B]? = some (.cells #[v0] T (0, 0)) := by
    rw [Below.heap_setCell _ _ _ _ (by exact hB), Below.heap_setCell _ _ _ _ (by exact hB)]
    exact block_below (block_below hv h1) hb
  have e2 : ((W.setCell ⟨g, j, none⟩ x).setCell ⟨g, j + 1, none⟩ y).heap[wr.heap.size]? = some (.cells #[v1, v2] T2 (0, 0)) := by
    rw [Below.heap_setCell _ _ _ _ (by exact fun e => hg e.symm), Below.heap_setCell _ _ _ _ (by exact fun e => hg e.symm)]
    exact block_below hx hb
  exact ⟨by rw [cell_of_row _ _ _ _ _ _ e1]; rfl, by rw [cell_of_row _ _ _ _ _ _ e2]; rfl, by rw [cell_of_row _ _ _ _ _ _ e2]; rfl⟩
set_option maxHeartbeats 2000000 in
theorem cut_any (p : Option Addr) (M : List KV) (n : Int) (q : Nat) (w : World) (h : MemAt w p M) (hM : M.length ≤ 4) (hE : Even M q) (hq : q ≤ 900) (h0 : M.length = 0 → q = 0) :
    Calls Tryz.prog 18 #[.pointer p, .int .i64 n] w fun e w' => MemG w (cutM M (cutN n q)) e w' := by
  obtain ⟨m, hm⟩ : ∃ m, cutN n q = m := ⟨_, rfl⟩
  obtain ⟨x, hx⟩ : ∃ x : Int, (if (q : Int) < n then (q : Int) else n) = x := ⟨_, rfl⟩
  have hmq : m ≤ q := by unfold cutN at hm; omega
  have hA : (if (0 : Int) < x then x else 0) = (m : Int) := by
    unfold cutN at hm
    rw [← hx]
    split <;> split at * <;> omega
  have hB : (if x < (0 : Int) then 0 else x) = (m : Int) := by
    unfold cutN at hm
    rw [← hx]
    split <;> split at * <;> omega
  rw [hm]
  clear hm
  have HLn := hid (len_any p M q w h h0 (fun hp => (hE 0 hp).1) hM)
  have HLy := hid (layers_any p M w h)
  have HNw := hid fun W => anew_nat M.length W hM
  have HF : Hid (∀ i, i < M.length → kv (cutM M m) i = ((kv M i).1.take m, (kv M i).2.take m)) := fun i hi => cutM_at M m i
  have HCl := hid (cutM_len M m)
  rcases h with ⟨rfl, rfl⟩ | ⟨B0, g0, ps0, rfl, h⟩
  · simp only [List.length_nil] at HLy HNw HCl
    clear h0 hE hM
    go_enter Tryz.func18, Tryz.ntmps18
    go_wp2_with fail
    refine HLn.out.mono ?_
    rintro e w' ⟨rfl, rfl⟩
    rename World => w
    go_wp2_with fail
    refine HLy.out.mono ?_
    rintro e w' ⟨rfl, rfl⟩
    rename World => w
    go_wp2_with fail
    refine (HNw.out _).mono ?_
    rintro e w2 ⟨B, g, ps, rfl, hB1, hg1, hM1, hb⟩
    have HM1 := hid hM1
    have HB1 := hid hB1
    have HG1 := hid hg1
    have HV := hid hb
    clear hM1 hB1 hg1 hb HLn HLy HNw
    go_wp2_with fail
    refine (all_none _).mono ?_
    rintro e w' ⟨rfl, rfl⟩
    rename World => w2
    go_wp2_with fail
    go_loopw [19] (fun i W => i = .int .i64 0 ∧ W = w2) (fun i _ => 0)
    case atStart => exact ⟨rfl, rfl⟩
    case round =>
      obtain ⟨rfl, rfl⟩ := hrel
      go_wp2
      go_ret
      exact ⟨_, _, _, rfl, HB1.out, HG1.out, HM1.out, HV.out⟩
  · have HA := hid fun W (hb : Below w.heap.size w W) => all_some W (h.below hb)
    have HH := hid fun W (hb : Below w.heap.size w W) => h.below hb
    have HEv := hid hE
    clear h hE h0
    generalize hL : M.length = L at *
    go_enter Tryz.func18, Tryz.ntmps18
    go_wp2_with fail
    refine HLn.out.mono ?_
    rintro e w' ⟨rfl, rfl⟩
    rename World => w
    go_wp2_with fail
    refine HLy.out.mono ?_
    rintro e w' ⟨rfl, rfl⟩
    rename World => w
    go_wp2_with fail
    refine (HNw.out _).mono ?_
    rintro e w2 ⟨B, g, ps, rfl, hB1, hg1, hM1, hb⟩
    have HU0 := hid (MemUp.start (fun i => ((kv M i).1.take m, (kv M i).2.take m)) hB1 hg1 hM1 hb)
    clear hM1 hB1 hg1 HLn HLy HNw
    go_wp2_with fail
    refine (HA.out _ hb).mono ?_
    rintro e w' ⟨rfl, rfl⟩
    rename World => w2
    clear hb HA
    go_wp2_with fail
    go_loopw [19] (fun i W => ∃ (k : Nat) (ps : List Hp), k ≤ L ∧ i = .int .i64 k ∧ Hid (MemUp w B g L k (fun i => ((kv M i).1.take m, (kv M i).2.take m)) ps W)) (fun i _ => L - (intOf i).toNat)
    case atStart => exact ⟨0, _, Nat.zero_le _, rfl, HU0⟩
    case round =>
      obtain ⟨k, ps, hk, rfl, HU⟩ := hrel
      clear HU0
      by_cases hlt : k < L
      · have hq1 : (k : Int) < (L : Int) := by omega
        have hH := HH.out wr HU.out.old
        have c0 := hH.own.cell0 (k := k) (by omega)
        have c1 := hH.own.cell1 (k := k) (by omega)
        obtain ⟨t1, t2⟩ := hH.rows k (by omega)
        have HT1 := hid t1
        have HT2 := hid t2
        have e1 := t1.1
        have e2 := t2.1
        obtain ⟨s1, s2⟩ := HEv.out k (by omega)
        generalize pk ps0 k = y at *
        obtain ⟨⟨y1, y2, y3⟩, ⟨v1, v2, v3⟩⟩ := y
        simp only at e1 e2
        have r1 := HT1.out.2.choose_spec.1.rd.room
        have r2 := HT2.out.2.choose_spec.1.rd.room
        have r3 := HT1.out.2.choose_spec.1.rd.most
        have r4 := HT2.out.2.choose_spec.1.rd.most
        simp only at r1 r2 r3 r4
        have r5 : m ≤ y3 := by omega
        have r6 : m ≤ v3 := by omega
        unfold hdV at c0 c1
        simp only at c0 c1
        clear hH t1 t2 HH HEv r1 r2
        have hy2 : m ≤ y2 := by omega
        have hv2 : m ≤ v2 := by omega
        clear e1 e2 s1 s2
        obtain ⟨W1, hW1⟩ : ∃ W1, W1 = wr.alloc (.cells #[.slice y1 y2 y3, .slice v1 v2 v3] 77) := ⟨_, rfl⟩
        have HX1 : Hid (Below wr.heap.size wr W1) := by unfold Hid; rw [hW1]; exact (Below.refl _ _).alloc (Nat.le_refl _) _
        have HBx : Hid (W1.heap[wr.heap.size]? = some (.cells #[.slice y1 y2 y3, .slice v1 v2 v3] 77 (0, 0))) := by unfold Hid; rw [hW1]; exact heap_alloc_new wr _
        have hBg := HU.out.apart
        have hglt := HU.out.own.lt
        have HC := hid fun W (u v : Value) (hb : Below W1.heap.size W1 W) => held_cut HU.out.var HBx.out hBg (by omega : g ≠ wr.heap.size) HX1.out hb (k * 2) u v
        have HC0 := hid fun W (hb : Below W1.heap.size W1 W) => held_cut0 HU.out.var HBx.out HX1.out hb
        have HX : Hid (Below W1.heap.size W1 W1.drew) := (Below.refl _ _).drew
        clear hBg hglt
        go_wp2_with fail
        rw [← hW1]
        clear hW1 HBx
        go_region_held3 (fun W : World => W.cell? ⟨B, 0, none⟩ = some (.slice (some ⟨g, 0, none⟩) L L) ∧ W.cell? ⟨wr.heap.size, 0, none⟩ = some (.slice y1 y2 y3) ∧ W.cell? ⟨wr.heap.size, 1, none⟩ = some (.slice v1 v2 v3))
          (first | (with_reducible exact HC0.out _ (Below.refl _ _)) | (with_reducible exact HC0.out _ HX.out) | (with_reducible exact HC.out _ _ _ HX.out))
          (first | (go_at_call 49; (with_reducible refine (first_any y1 v1 y2 y3 v2 v3 m _ r5 r6 r3 r4).mono ?_); rintro e z1 ⟨rfl, hb⟩; replace HX := hid (HX.out.trans (hb.mono HX.out.size)); have HUz := hid ((HU.out.below HX1.out).below HX.out); have ck0 := HUz.out.own.cell0 hlt; have ck1 := HUz.out.own.cell1 hlt; have fk0 := HUz.out.own.frozen (k * 2); have fk1 := HUz.out.own.frozen (k * 2 + 1); unfold hdV at ck0 ck1; clear hb))
        have HUn := hid (HUz.out.step hlt (y1, m, m) (v1, m, m) (((HT1.out.below HX1.out).below HX.out).cut (by omega)) (((HT2.out.below HX1.out).below HX.out).cut (by omega)))
        clear HUz HU HT1 HT2 HX HX1 HC HC0 ck0 ck1 fk0 fk1 c0 c1
        go_wp2_with fail
        go_round
        case rel => exact ⟨k + 1, _, by omega, by go_num, HUn⟩
        case measure => simp [intOf]; omega
      · obtain rfl : k = L := by omega
        have HD := hid (HU.out.done (M := cutM M m) (HCl.out) HF.out)
        have hB1 := hid HU.out.lowB
        have hg1 := hid HU.out.own.base
        have HV := hid HU.out.old
        clear HU HH HEv HF HCl
        go_wp2
        go_ret
        exact ⟨_, _, _, rfl, hB1.out, hg1.out, HD.out, HV.out⟩
end Go.Proofs.YtehmdlipacbpfaaGreat
