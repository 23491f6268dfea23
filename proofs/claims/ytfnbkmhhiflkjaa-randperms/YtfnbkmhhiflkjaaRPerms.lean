/-
  Contract: the document's Perm hands back permL, in memory of the call's own.
-/
import Derived.Test.YtfnbkmhhiflkjaaShuffles
namespace Go.Proofs.Ytfnbkmhhiflkjaa
open Go.RowKit
set_option linter.unusedVariables false
set_option maxRecDepth 1000000

/-- One number in a new block, as an append of one element lays it. -/
theorem Reads.one {k : IntKind} (w : World) (x : Int) (t : TypeId) : Reads k (w.alloc (.cells #[.int k x] t)) (some ⟨w.heap.size, 0, none⟩) 1 1 [x] :=
  ⟨rfl, Nat.le_refl _, by omega, (fun e => by cases e), fun i hi => ⟨w.heap.size, 0, rfl, (by
    have h0 : i = 0 := by omega
    subst h0
    simp)⟩⟩
/-- Behind the first loop: a row that is nil, or lies in a block. -/
theorem own_cases {base m : Nat} {v : Value} {xs : List Int} {w : World} (h : w.ownsRow base 3 1 v m (xs.map (Value.int .i64))) :
    (m = 0 ∧ v = .slice none 0 0) ∨ ∃ g cap, v = .slice (some ⟨g, 0, none⟩) m cap ∧ OwnI base g m cap xs w := by
  rcases h.2 with ⟨h1, h2⟩ | ⟨g, cap, cur, rfl, r⟩
  · exact .inl ⟨h2, h1⟩
  · exact .inr ⟨g, cap, rfl, h⟩

set_option maxHeartbeats 2000000 in
theorem rperm_any (s n : Int) (m : Nat) (w : World) (hp : Places n m) (hm : m ≤ 4096) :
    Calls Try.prog 19 #[.int .u64 s, .int .i64 n] w fun e w' => ∃ v, e = .returned v ∧ w'.ownsRow w.heap.size 3 1 v m ((permL s m).map (Value.int .i64)) ∧ Below w.heap.size w w' := by
  obtain ⟨i0, hi, hz0, hz1, hz2⟩ := info_parts Try.info3
  have HM : ∀ k : Nat, k < m → (k : Int) < n ∧ (k : Int) < 4096 := by
    intro k hk
    unfold Places at hp
    omega
  have HX : ¬ (m : Int) < n ∨ ((m : Int) < n ∧ ¬ (m : Int) < 4096) := by unfold Places at hp; omega
  clear hp
  go_enter Try.func19, Try.ntmps19
  go_wp2_with fail
  go_loopw [5, 6] (fun u i wr => ∃ k : Nat, k ≤ m ∧ i = .int .i64 k ∧ wr.ownsRow w.heap.size 3 1 u k ((idxL k).map (Value.int .i64)) ∧ Below w.heap.size w wr) (fun _ i _ => m - (intOf i).toNat)
  case atStart => exact ⟨0, Nat.zero_le _, rfl, World.ownsRow_nil _ _ _ _, Below.refl _ _⟩
  case round =>
    obtain ⟨k, hk, rfl, how, hb⟩ := hrel
    have hsz := hb.size
    by_cases hlt : k < m
    · obtain ⟨l1, l2⟩ := HM k hlt
      clear HX HM
      go_wp2_with (at_builtin; refine append_any _ rfl (.tmp 19) (.tmp 21) 32 rfl w.heap.size 3 i0 (.int .i64 0) 8 Try.underlying32 hi hz0 hz1 hz2 rfl .i64 _ k (idxL k) rfl (how.alloc _) _ 1 1 [(k : Int)] rfl (Reads.one _ _ _) (by omega) (by omega) (by simp; omega) ?_; intro v' w1 how1 hb1)
      go_round
      case rel => exact ⟨k + 1, by omega, by go_num, by rw [idxL_snoc]; exact how1, hb.trans (((Below.refl _ _).alloc (by omega) _).trans hb1)⟩
      case measure => simp [intOf]; omega
    · obtain rfl : k = m := by omega
      clear HM
      rcases own_cases how with ⟨rfl, rfl⟩ | ⟨g, cap, rfl, hO⟩
      · have HE : Hid (wr.ownsRow w.heap.size 3 1 (.slice none 0 0) 0 ((permL s 0).map (Value.int .i64))) := how
        have HW := hid hb
        clear how hb hlt
        rcases HX with hx | ⟨hx, hy⟩
        · simp only [Int.ofNat_zero] at hx
          go_wp2_with fail
          go_loopw [7] (fun i wz => ∃ c : Int, c = -1 ∧ i = .int .i64 c ∧ Hid (wz.ownsRow w.heap.size 3 1 (.slice none 0 0) 0 ((permL s 0).map (Value.int .i64))) ∧ Hid (Below w.heap.size w wz)) (fun i _ => (intOf i).toNat)
          case atStart => exact ⟨-1, rfl, rfl, HE, HW⟩
          case round =>
            obtain ⟨c, rfl, rfl, HE2, HW2⟩ := hrel
            clear HE HW
            go_wp2
            go_ret
            exact ⟨_, rfl, HE2.out, HW2.out⟩
        · omega
      · have HO := hid hO
        have HW := hid hb
        clear how hb hlt hO
        rcases HX with hx | ⟨hx, hy⟩
        · go_wp2_with fail
          go_loopw [7] (fun i wz => ∃ (c : Int) (ys : List Int), -1 ≤ c ∧ c < k ∧ i = .int .i64 c ∧ Hid (OwnI w.heap.size g k cap ys wz) ∧ Hid (Below w.heap.size w wz) ∧ Hid (finL s c.toNat ys = permL s k)) (fun i _ => (intOf i).toNat)
          case atStart => exact ⟨(k : Int) - 1, _, by omega, by omega, by go_num, HO, HW, by unfold Hid permL; congr 1; omega⟩
          case round =>
            obtain ⟨c, ys, c0, c1, rfl, HY, HW2, HF⟩ := hrel
            clear HO HW
            rename World => wz
            by_cases h0 : 0 < c
            · have HS := hid ((fin_step s h0 ys).symm.trans HF.out)
              have hB := rbelow_any s c (c + 1) wz (by omega) (by omega)
              obtain ⟨b0, b1⟩ := below_bd s c (m := c + 1) (by omega)
              generalize belowZ s c (c + 1) = b at *
              obtain ⟨I, rfl⟩ := Int.eq_ofNat_of_zero_le (by omega : 0 ≤ c)
              obtain ⟨J, rfl⟩ := Int.eq_ofNat_of_zero_le b0
              have hI : I < k := by omega
              have hJ : J < k := by omega
              have HY2 : Hid (OwnI w.heap.size g k cap (swapL ys I J) ((wz.setCell ⟨g, I, none⟩ (.int .i64 (atL ys J))).setCell ⟨g, J, none⟩ (.int .i64 (atL ys I)))) := (HY.out.set I _).set J _
              have ci := HY.out.cell hI
              have cj := HY.out.cell hJ
              have fi := HY.out.frozen I
              have h2 := HY.out.set I (atL ys J)
              have c2 := h2.cell hJ
              have f2 := h2.frozen J
              have HBG : Hid (w.heap.size ≤ g) := HY.out.base
              have HS2 : Hid (finL s ((I : Int) - 1).toNat (swapL ys I J) = permL s k) := HS
              clear h2 HS HF b0 b1
              generalize atL ys I = x at *
              generalize atL ys J = y at *
              generalize atL (ys.set I y) J = z at *
              generalize swapL ys I J = us at *
              go_wp2_with fail
              refine hB.mono ?_
              rintro e w' ⟨rfl, rfl⟩
              clear hB
              go_wp2_with fail
              go_round
              case rel => exact ⟨(I : Int) - 1, us, by omega, by omega, by go_num, HY2, ((HW2.out.setCell HBG.out _).setCell HBG.out _).drew.drew, HS2⟩
              case measure => simp [intOf]; omega
            · have HE : Hid (OwnI w.heap.size g k cap (permL s k) wz) := by
                unfold Hid
                rw [← HF.out, show c.toNat = 0 by omega]
                exact HY.out
              go_wp2
              go_ret
              exact ⟨_, rfl, HE.out, HW2.out⟩
        · go_wp2_with fail
          go_loopw [7] (fun i wz => ∃ (c : Int) (ys : List Int), -1 ≤ c ∧ c < k ∧ i = .int .i64 c ∧ Hid (OwnI w.heap.size g k cap ys wz) ∧ Hid (Below w.heap.size w wz) ∧ Hid (finL s c.toNat ys = permL s k)) (fun i _ => (intOf i).toNat)
          case atStart => exact ⟨(k : Int) - 1, _, by omega, by omega, by go_num, HO, HW, by unfold Hid permL; congr 1; omega⟩
          case round =>
            obtain ⟨c, ys, c0, c1, rfl, HY, HW2, HF⟩ := hrel
            clear HO HW
            rename World => wz
            by_cases h0 : 0 < c
            · have HS := hid ((fin_step s h0 ys).symm.trans HF.out)
              have hB := rbelow_any s c (c + 1) wz (by omega) (by omega)
              obtain ⟨b0, b1⟩ := below_bd s c (m := c + 1) (by omega)
              generalize belowZ s c (c + 1) = b at *
              obtain ⟨I, rfl⟩ := Int.eq_ofNat_of_zero_le (by omega : 0 ≤ c)
              obtain ⟨J, rfl⟩ := Int.eq_ofNat_of_zero_le b0
              have hI : I < k := by omega
              have hJ : J < k := by omega
              have HY2 : Hid (OwnI w.heap.size g k cap (swapL ys I J) ((wz.setCell ⟨g, I, none⟩ (.int .i64 (atL ys J))).setCell ⟨g, J, none⟩ (.int .i64 (atL ys I)))) := (HY.out.set I _).set J _
              have ci := HY.out.cell hI
              have cj := HY.out.cell hJ
              have fi := HY.out.frozen I
              have h2 := HY.out.set I (atL ys J)
              have c2 := h2.cell hJ
              have f2 := h2.frozen J
              have HBG : Hid (w.heap.size ≤ g) := HY.out.base
              have HS2 : Hid (finL s ((I : Int) - 1).toNat (swapL ys I J) = permL s k) := HS
              clear h2 HS HF b0 b1
              generalize atL ys I = x at *
              generalize atL ys J = y at *
              generalize atL (ys.set I y) J = z at *
              generalize swapL ys I J = us at *
              go_wp2_with fail
              refine hB.mono ?_
              rintro e w' ⟨rfl, rfl⟩
              clear hB
              go_wp2_with fail
              go_round
              case rel => exact ⟨(I : Int) - 1, us, by omega, by omega, by go_num, HY2, ((HW2.out.setCell HBG.out _).setCell HBG.out _).drew.drew, HS2⟩
              case measure => simp [intOf]; omega
            · have HE : Hid (OwnI w.heap.size g k cap (permL s k) wz) := by
                unfold Hid
                rw [← HF.out, show c.toNat = 0 by omega]
                exact HY.out
              go_wp2
              go_ret
              exact ⟨_, rfl, HE.out, HW2.out⟩

theorem OwnI.stays {base g m cap : Nat} {xs : List Int} {w w' : World} (h : OwnI base g m cap xs w) (hb : Below w.heap.size w w') : OwnI base g m cap xs w' := by
  refine ⟨h.1, ?_⟩
  rcases h.2 with h' | ⟨g, c, cur, hv, hB, hg, rest⟩
  · exact .inl h'
  · exact .inr ⟨g, c, cur, hv, hB, (hb.block g (Array.getElem?_eq_some_iff.1 hg).1).trans hg, rest⟩

/-- The row in block g holds these truths. -/
def OwnB (g m : Nat) (bs : List Bool) (w : World) : Prop := w.ownsRow g 4 1 (.slice (some ⟨g, 0, none⟩) m m) m (bs.map Value.bool)
theorem OwnB.cell {g m : Nat} {bs : List Bool} {w : World} (h : OwnB g m bs w) {k : Nat} (hk : k < m) {b : Bool} (hb : bs[k]? = some b) : w.cell? ⟨g, k, none⟩ = some (.bool b) := by
  have := World.ownsRow.cellAt h k (by omega)
  rw [this, List.getElem?_map, hb]
  rfl
theorem OwnB.frozen {g m : Nat} {bs : List Bool} {w : World} (h : OwnB g m bs w) (k : Nat) : w.frozen? ⟨g, k, none⟩ = false := World.ownsRow.frozenAt h k
theorem OwnB.set {g m : Nat} {bs : List Bool} {w : World} (h : OwnB g m bs w) (k : Nat) (v : Bool) : OwnB g m (bs.set k v) (w.setCell ⟨g, k, none⟩ (.bool v)) := by
  have := (World.ownsRow.stored h k (.bool v)).1
  unfold OwnB
  rw [List.map_set]
  exact this
theorem make_bools (w : World) (m : Nat) (hm : m ≤ 4096) : (Instr.makeSlice 34 (.int .i64 (m : Int)) (.int .i64 (m : Int))).run Try.prog w = .ok (.slice (some ⟨w.heap.size, 0, none⟩) m m) (w.alloc (.cells (madeCells #[.bool false] m) 4)) := by
  obtain ⟨i0, hi, hz0, hz1, hz2⟩ := info_parts Try.info4
  have := run_make (P := Try.prog) w 34 4 i0 (.bool false) Try.underlying34 hi hz0 .i64 .i64 (m : Int) (m : Int) (by omega) (Int.le_refl _) (by rw [hz2]; omega) (by omega)
  rw [this, hz1, Int.toNat_natCast, Nat.mul_one]
  rfl
theorem own_bools (w : World) (m : Nat) (xs : List Int) (hm : m ≤ 4096) : OwnB w.heap.size m (metL m xs 0) (w.alloc (.cells (madeCells #[.bool false] m) 4)) := by
  have := World.ownsRow_lit (base := w.heap.size) (e := 4) (size := 1) w (madeCells #[.bool false] m) m (Nat.le_refl _) (by unfold maxLen; omega) (by simp [madeCells])
  unfold OwnB
  rw [metL_zero, List.map_replicate, ← toList_madeCells_one]
  exact this
end Go.Proofs.Ytfnbkmhhiflkjaa
