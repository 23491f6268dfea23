/-
  The document's ring: Order.
-/
import Derived.Test.YtaiojhigomdocaaRfMath
namespace Go.Proofs.Ytaiojhigomdocaa
open Go.RowKit Go.Maps Go.Shelf Go.Sort
set_option linter.unusedVariables false
set_option maxRecDepth 1000000

/-- While nodes are chosen, in memory: the row of those chosen, the row of truths. -/
structure SlW (W : World) (G n : Nat) (bs : List Bool) (v : Value) (out : List Int) (W' : World) : Prop where
  met : OwnB G n bs W'
  row : W'.ownsRow W.heap.size 22 1 v out.length (out.map (Value.int .u64))
  bel : RowKit.Below W.heap.size W W'
theorem SlW.below {W W' W2 : World} {G n : Nat} {bs : List Bool} {v : Value} {out : List Int} (h : SlW W G n bs v out W') (hb : RowKit.Below W'.heap.size W' W2) : SlW W G n bs v out W2 :=
  ⟨own_blk h.met fun b e => hb.block b (World.ownsRow.lt h.met b e).2, own_blk h.row fun b e => hb.block b (World.ownsRow.lt h.row b e).2, h.bel.trans (hb.mono h.bel.size)⟩
theorem SlW.far {W W' : World} {G n : Nat} {bs : List Bool} {v : Value} {out : List Int} (h : SlW W G n bs v out W') : v.ownBlock ≠ some G := fun e => by
  rcases id h.row.2 with ⟨hv, _⟩ | ⟨g, cap, cur, hv, _, hg, _⟩
  · rw [hv] at e; cases e
  · rw [hv] at e
    obtain rfl : g = G := by simpa [Value.ownBlock] using e
    rcases id h.met.2 with ⟨hv2, _⟩ | ⟨g2, cap2, cur2, hv2, _, hg2, _⟩
    · cases hv2
    · obtain rfl : g = g2 := by
        have := congrArg Value.ownBlock hv2
        simpa [Value.ownBlock] using this
      rw [hg] at hg2
      simp at hg2
theorem SlW.mark {W W' : World} {G n : Nat} {bs : List Bool} {v : Value} {out : List Int} (h : SlW W G n bs v out W') (hG : W.heap.size ≤ G) (b : Nat) : SlW W G n (bs.set b true) v out (W'.setCell ⟨G, b, none⟩ (.bool true)) :=
  ⟨h.met.set b true, own_blk h.row fun k e => Below.heap_setCell _ _ _ _ (fun e2 => h.far (by rw [e, e2])), h.bel.trans ((Fb.set (F := fun x => W.heap.size ≤ x) (p := ⟨G, b, none⟩) hG _).to (fun x hx => hx) h.bel.size)⟩
theorem SlW.app {W W' W2 : World} {G n n1 : Nat} {bs : List Bool} {v v' : Value} {out : List Int} {y : Int} {o : Obj} (h : SlW W G n bs v out W') (hn : out.length = n1) (h1 : W2.ownsRow W.heap.size 22 1 v' (n1 + 1) (out.map (Value.int .u64) ++ [.int .u64 y])) (h2 : (W'.alloc o).grownBy W2 v.ownBlock) : SlW W G n bs v' (out ++ [y]) W2 := by
  have hb : RowKit.Below W'.heap.size W' (W'.alloc o) := (RowKit.Below.refl _ _).alloc (Nat.le_refl _) _
  have ha := h.below hb
  refine ⟨own_blk ha.met fun b e => h2.block b (World.ownsRow.lt ha.met b e).2 fun e2 => ?_, by rw [List.length_append, hn, List.map_append]; exact h1, ha.bel.grown h2 (Nat.le_trans h.bel.size hb.size) fun j hj => (World.ownsRow.lt ha.row j hj).1⟩
  obtain rfl : G = b := by simpa [Value.ownBlock] using e
  exact h.far (by first | exact e2 | exact e2.symm)
set_option maxHeartbeats 8000000 in
theorem rorder_any {W : World} {B : Nat} {s : Int} {e : Nat} {u : Value} {l : List Int} (h : RfAt W B s e u l) (hl : l.Pairwise (· < ·)) (x : Int) {R : List Int} (hR : R.Pairwise (nlt fun y => nearZ s e y (atZ s x))) (hp : R.Perm l) :
    Calls Try.prog 21 #[.pointer (some ⟨B, 0, none⟩), .int .u64 x] W fun r w' => ∃ u : Value, r = .returned u ∧ Hid (w'.ownsRow W.heap.size 22 1 u R.length (R.map (Value.int .u64)) ∧ RowKit.Below W.heap.size W w') := by
  have c0 := h.obj.cells.1
  obtain ⟨a, cap, hu, hr⟩ := h.row.reads
  obtain ⟨n, Hn⟩ : ∃ n, Hid (l.length = n) := ⟨_, rfl⟩
  have hn : n ≤ 64 := by rw [← Hn.out]; exact h.len
  rw [Hn.out] at hu hr
  subst hu
  have c2 := h.obj.cells.2.2
  have HK : Hid (∀ W' : World, RowKit.Below W.heap.size W W' → W'.cell? ⟨B, 2, none⟩ = some (.slice a n cap) ∧ Reads .u64 W' a n cap l ∧ RfAt W' B s e (.slice a n cap) l) := fun W' hb => ⟨(h.below hb).obj.cells.2.2, hr.below hb, h.below hb⟩
  have HRm : Hid (n ≤ cap ∧ cap ≤ 9223372036854775807) := ⟨hr.room, hr.most⟩
  have hA := rat_any s x W
  obtain ⟨q, Hq⟩ : ∃ q, Hid (atZ s x = q) := ⟨_, rfl⟩
  rw [Hq.out] at hA
  obtain ⟨nr, Hnr⟩ : ∃ nr : Int → Int, Hid ((fun y => nearZ s e y (atZ s x)) = nr ∧ ∀ y, nearZ s e y q = nr y) := ⟨_, rfl, fun y => by rw [Hq.out]⟩
  rw [Hnr.out.1] at hR
  have HAll : Hid (∀ out bs, Sel l nr n out bs → out = R) := fun out bs hs => by
    rw [← Hn.out] at hs
    exact hs.all hl hR hp
  have HFnd : Hid (∀ (j : Nat) (out : List Int) (bs : List Bool) (best far : Int), Sel l nr j out bs → j < n → Bst l nr bs n best far → ∃ (b : Nat) (y : Int), best = b ∧ b < n ∧ l[b]? = some y ∧ Sel l nr (j + 1) (out ++ [y]) (bs.set b true)) := fun j out bs best far h1 h2 h3 => by
    rw [← Hn.out] at h2 h3 ⊢
    exact h1.found hl h2 h3
  have HKp : Hid (∀ (bs : List Bool) (i b : Nat) (far y : Int), Bst l nr bs i (b : Int) far → l[i]? = some y → ¬ nr y < far → Bst l nr bs (i + 1) b far) := fun bs i b far y h1 h2 h3 => h1.keep hl h2 h3
  have HNr := hid fun (W' : World) (hb : RowKit.Below W.heap.size W W') (y : Int) => rnear_any ((HK.out W' hb).2.2) y q
  have hmk := make_bools W n (by omega)
  have HS0 : Hid (SlW W W.heap.size n (List.replicate n false) (.slice none 0 0) [] (W.alloc (.cells (madeCells #[.bool false] n) 4))) := ⟨own_bools W n (by omega), World.ownsRow_nil _ _ _ _, (RowKit.Below.refl _ _).alloc (Nat.le_refl _) _⟩
  have HZ0 : Hid (Sel l nr 0 [] (List.replicate n false)) := by
    have := Sel.zero l nr
    rw [Hn.out] at this
    exact this
  obtain ⟨i0, hi0, hz0, hz1, hz2⟩ := Go.info_parts Try.infoU
  obtain ⟨G, HG⟩ : ∃ G, Hid (W.heap.size = G) := ⟨_, rfl⟩
  clear h hr hl hR hp
  go_enter Try.func21, Try.ntmps21
  go_wp2_with fail
  refine hA.mono ?_
  rintro r w1 ⟨rfl, rfl⟩
  clear hA c0
  go_wp2_with fail
  generalize hwM : w1.alloc (.cells (madeCells #[.bool false] n) 4) = wM at *
  rw [HG.out] at HS0 ⊢
  clear hwM c2 hmk
  go_loopw [6, 8] (fun y z W' => ∃ (j : Nat) (v : Value) (out : List Int) (bs : List Bool), j ≤ n ∧ y = v ∧ z = .int .i64 j ∧ Hid (SlW w1 G n bs v out W') ∧ Hid (Sel l nr j out bs)) (fun _ z _ => n - (intOf z).toNat)
  case atStart => exact ⟨0, .slice none 0 0, [], _, by omega, rfl, rfl, HS0, HZ0⟩
  case round =>
  obtain ⟨j, v, out, bs, hj, hv, rfl, HS, HZ⟩ := hrel
  have hv' := hv.symm
  subst hv'
  rename World => w2
  clear HS0 HZ0
  have c2 := (HK.out _ HS.out.bel).1
  by_cases hjn : j < n
  · have g1 : (j : Int) < (n : Int) := by omega
    go_wp2_with fail
    go_loopw [9, 10, 11] (fun y1 y2 z W' => ∃ (i : Nat) (best far : Int), i ≤ n ∧ y1 = .int .i64 best ∧ y2 = .int .u64 far ∧ z = .int .i64 i ∧ Hid (SlW w1 G n bs v out W') ∧ Hid (Bst l nr bs i best far)) (fun _ _ z _ => n - (intOf z).toNat)
    case atStart => exact ⟨0, -1, 0, by omega, rfl, rfl, rfl, HS, Bst.zero _ _ _⟩
    case round =>
    obtain ⟨i, best, far, hi, rfl, rfl, rfl, HS3, HB3⟩ := hrel
    rename World => w3
    clear HS c2
    have c3 := (HK.out _ HS3.out.bel).1
    by_cases hin : i < n
    · have g2 : (i : Int) < (n : Int) := by omega
      have cm := HS3.out.met.cell hin
      obtain ⟨bw, ow, rfl, hcw⟩ := (HK.out _ HS3.out.bel).2.1.cell i hin
      obtain ⟨y, Hy⟩ : ∃ y, Hid (l[i]? = some y) := ⟨l[i]'(by rw [Hn.out]; exact hin), List.getElem?_eq_getElem _⟩
      rw [Hy.out] at hcw
      have hcw' : w3.cell? ⟨bw, ow + i, none⟩ = some (.int .u64 y) := hcw
      clear hcw
      cases hm : mt bs i with
      | true =>
        have HN := hid (HB3.out.skip hm)
        rw [hm] at cm
        clear hm
        go_wp2_with fail
        go_round
        case rel => exact ⟨i + 1, best, far, by omega, rfl, rfl, by go_num, HS3, HN⟩
        case measure => simp [intOf]; omega
      | false =>
        rw [hm] at cm
        have Hm := hid hm
        have hNr := HNr.out _ HS3.out.bel y
        rw [Hnr.out.2 y] at hNr
        obtain ⟨d, Hd⟩ : ∃ d, Hid (nr y = d) := ⟨_, rfl⟩
        rw [Hd.out] at hNr
        clear hm
        go_wp2_with fail
        refine hNr.mono ?_
        rintro r w4 ⟨rfl, H4⟩
        have HS4 := hid (HS3.out.below H4.out)
        clear hNr H4 HS3 c3 cm hcw'
        by_cases hb0 : best = -1
        · subst hb0
          have HN : Hid (Bst l nr bs (i + 1) i d) := by
            have := HB3.out.first Hy.out Hm.out
            rw [Hd.out] at this
            exact this
          go_wp2_with fail
          go_round
          case rel => exact ⟨i + 1, i, d, by omega, rfl, rfl, by go_num, HS4, HN⟩
          case measure => simp [intOf]; omega
        · obtain ⟨b, rfl⟩ : ∃ b : Nat, best = (b : Int) := by
            rcases HB3.out with ⟨e, _⟩ | ⟨b, _, e, _⟩
            · exact absurd e hb0
            · exact ⟨b, e⟩
          have g3 : ¬ (b : Int) < 0 := by omega
          by_cases hd : d < far
          · have HN : Hid (Bst l nr bs (i + 1) i d) := by
              have := HB3.out.less Hy.out Hm.out (by rw [Hd.out]; exact hd)
              rw [Hd.out] at this
              exact this
            go_wp2_with fail
            go_round
            case rel => exact ⟨i + 1, i, d, by omega, rfl, rfl, by go_num, HS4, HN⟩
            case measure => simp [intOf]; omega
          · have HN := hid (HKp.out bs i b far y HB3.out Hy.out (by rw [Hd.out]; omega))
            go_wp2_with fail
            go_round
            case rel => exact ⟨i + 1, b, far, by omega, rfl, rfl, by go_num, HS4, HN⟩
            case measure => simp [intOf]; omega
    · have g2 : ¬ (i : Int) < (n : Int) := by omega
      obtain rfl : i = n := by omega
      obtain ⟨b, y, rfl, hb, hy, hsel⟩ := HFnd.out j out bs best far HZ.out hjn HB3.out
      have HZ2 := hid hsel
      have gb : (b : Int) < (i : Int) := by omega
      have gb0 : ¬ (b : Int) < 0 := by omega
      have cm := HS3.out.met.cell hb
      have fm := HS3.out.met.frozen b
      have HS4 := hid (HS3.out.mark (by rw [HG.out]; exact Nat.le_refl _) b)
      have c4 := (HK.out _ HS4.out.bel).1
      obtain ⟨bw, ow, rfl, hcw⟩ := (HK.out _ HS4.out.bel).2.1.cell b hb
      rw [hy] at hcw
      have hcw' : (w3.setCell ⟨G, b, none⟩ (.bool true)).cell? ⟨bw, ow + b, none⟩ = some (.int .u64 y) := hcw
      obtain ⟨n1, Hn1⟩ : ∃ n1, Hid (out.length = n1 ∧ n1 ≤ 64) := ⟨_, rfl, by rw [HZ.out.len]; omega⟩
      have hn1 := Hn1.out.2
      have hrow := HS4.out.row
      rw [Hn1.out.1] at hrow
      obtain ⟨a1, cap1, rfl, _⟩ := Reads.own (k := .u64) hrow
      have HNw := hid (news_one .u64 y (w3.setCell ⟨G, b, none⟩ (.bool true)) 22)
      have HOa := hid (hrow.alloc (.cells #[.int .u64 y] 22))
      clear hcw hrow hsel HS3 hy
      have hsz : (w3.setCell ⟨G, b, none⟩ (.bool true)).heap.size = w3.heap.size := by simp
      go_wp2_with (at_builtin; refine wpList_append_own _ rfl _ _ 31 rfl w1.heap.size 22 i0 (.int .u64 0) 1 8 Try.underlying31 hi0 hz0 hz1 hz2 rfl (by decide) _ n1 _ rfl HOa.out ⟨w3.heap.size, 0, none⟩ 1 1 [.int .u64 y] rfl rfl (by rw [← hsz]; exact HNw.out) (one_cell .u64 y) (by unfold maxLen; omega) (by omega) (by have := HS4.out.bel.size; simp at this ⊢; omega) ?_; intro v3 w5 q1 q2 q3)
      have HS5 := hid (HS4.out.app Hn1.out.1 q1 q2)
      clear q1 q2 q3 HNw HOa HS4 cm fm c4 hcw'
      go_wp2_with fail
      go_round
      case rel => exact ⟨j + 1, v3, _, _, by omega, rfl, by go_num, HS5, HZ2⟩
      case measure => simp [intOf]; omega
  · have g1 : ¬ (j : Int) < (n : Int) := by omega
    obtain rfl : j = n := by omega
    have HF : Hid (w2.ownsRow w1.heap.size 22 1 v R.length (R.map (Value.int .u64)) ∧ RowKit.Below w1.heap.size w1 w2) := by
      rw [← HAll.out _ _ HZ.out]
      exact ⟨HS.out.row, HS.out.bel⟩
    clear HS HZ HK HNr
    go_wp2_with fail
    go_ret
    exact ⟨v, rfl, HF⟩
end Go.Proofs.Ytaiojhigomdocaa
