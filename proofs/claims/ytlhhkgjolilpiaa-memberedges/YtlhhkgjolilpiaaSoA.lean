/-
  slices.Sort at uint64, to the element: what a block of numbers holds (Ra, So); cmp.Less, insertionSort.
-/
import Derived.Test.YtlhhkgjolilpiaaFrames
import Derived.Deep.QuietTactic
import Derived.BigQuiet
import Derived.BigRegion
import Derived.Sort.AssemblyPlain
namespace Go.Proofs.Ytlhhkgjolilpiaa
open Go.RowKit
set_option linter.unusedVariables false
set_option maxRecDepth 1000000

theorem wrapN {n : Nat} (h : n ≤ 1000000) : IntKind.i64.wrap (n : Int) = (n : Int) := wrap64_in (by omega) (by omega)
/-- A block of numbers holds d at its head. -/
def Ra (W : World) (b : Nat) (d : Array Int) : Prop := ∃ cur, W.heap[b]? = some (.cells cur 25 (0, 0)) ∧ ∀ i, i < d.size → cur[i]? = some (.int .u64 d[i]!)
theorem Ra.cell {W : World} {b : Nat} {d : Array Int} (h : Ra W b d) {i : Nat} (hi : i < d.size) : W.cell? ⟨b, i, none⟩ = some (.int .u64 d[i]!) := by
  obtain ⟨cur, h1, h2⟩ := h
  rw [cell_of_row _ _ _ _ _ _ h1]; exact h2 i hi
theorem Ra.frozen {W : World} {b : Nat} {d : Array Int} (h : Ra W b d) (i : Nat) : W.frozen? ⟨b, i, none⟩ = false := by
  obtain ⟨cur, h1, _⟩ := h
  exact frozen_of_row _ _ i _ _ h1
theorem Ra.set {W : World} {b : Nat} {d : Array Int} (h : Ra W b d) (i : Nat) (x : Int) : Ra (W.setCell ⟨b, i, none⟩ (.int .u64 x)) b (d.setIfInBounds i x) := by
  obtain ⟨cur, h1, h2⟩ := h
  refine ⟨_, row_set (k := i) (u := .int .u64 x) h1, fun j hj => ?_⟩
  have hj' : j < d.size := by simpa using hj
  have hc := h2 j hj'
  by_cases e : i = j
  · subst e
    have hlt : i < cur.size := by
      rcases Nat.lt_or_ge i cur.size with h | h
      · exact h
      · rw [Array.getElem?_eq_none h] at hc; cases hc
    simp [hlt, hj']
  · rw [Array.getElem?_setIfInBounds]
    have : (d.setIfInBounds i x)[j]! = d[j]! := by
      simp only [getElem!_def, Array.getElem?_setIfInBounds, if_neg e]
    simp [e, hc, this]
theorem Ra.same {W W' : World} {b : Nat} {d : Array Int} (h : Ra W b d) (hb : W'.heap[b]? = W.heap[b]?) : Ra W' b d := by
  obtain ⟨cur, h1, h2⟩ := h
  exact ⟨cur, hb.trans h1, h2⟩
/-- A block of numbers has as many cells as it had. -/
def Sz (b : Nat) (w W : World) : Prop := ∀ cur cur0, W.heap[b]? = some (.cells cur 25 (0, 0)) → w.heap[b]? = some (.cells cur0 25 (0, 0)) → cur.size = cur0.size
theorem Sz.refl (b : Nat) (w : World) : Sz b w w := fun cur cur0 h h0 => by rw [h] at h0; cases h0; rfl
theorem Sz.same {b : Nat} {w W W' : World} (h : Sz b w W) (hb : W'.heap[b]? = W.heap[b]?) : Sz b w W' := fun cur cur0 h1 h0 => h cur cur0 (hb ▸ h1) h0
/-- The world W of a sort that began at w: the block holds d. -/
def So (w : World) (b N : Nat) (d : Array Int) (W : World) : Prop := d.size = N ∧ Ra W b d ∧ Fb (at1 b) w W ∧ Sz b w W
theorem So.start {w : World} {b : Nat} {d : Array Int} (h : Ra w b d) : So w b d.size d w := ⟨rfl, h, Fb.refl _ _, Sz.refl _ _⟩
theorem So.cell {w W : World} {b N : Nat} {d : Array Int} (h : So w b N d W) {i : Nat} (hi : i < N) : W.cell? ⟨b, i, none⟩ = some (.int .u64 d[i]!) := h.2.1.cell (by rw [h.1]; exact hi)
theorem So.frozen {w W : World} {b N : Nat} {d : Array Int} (h : So w b N d W) (i : Nat) : W.frozen? ⟨b, i, none⟩ = false := h.2.1.frozen i
theorem So.lt {w W : World} {b N : Nat} {d : Array Int} (h : So w b N d W) : b < W.heap.size := by obtain ⟨_, ⟨cur, h1, _⟩, _⟩ := h; exact lt_of_block h1
theorem So.below {w W W' : World} {b N : Nat} {d : Array Int} (h : So w b N d W) (k : Below W.heap.size W W') : So w b N d W' := ⟨h.1, h.2.1.same (k.block b h.lt), h.2.2.1.below k, h.2.2.2.same (k.block b h.lt)⟩
theorem So.other {w W W' : World} {b N s : Nat} {d : Array Int} (h : So w b N d W) (k : Fb (at1 s) W W') (hs : b ≠ s) (hn : w.heap.size ≤ s) : So w b N d W' :=
  ⟨h.1, h.2.1.same (k.block b h.lt hs), h.2.2.1.trans k fun x hx => .inr (by rw [show x = s from hx]; exact hn), h.2.2.2.same (k.block b h.lt hs)⟩
theorem So.drewN {w W : World} {b N : Nat} {d : Array Int} (h : So w b N d W) (q : Nat) : So w b N d (W.drewN q) := h.below ⟨rfl, rfl, rfl, Nat.le_refl _, fun _ _ => rfl⟩
theorem So.drew {w W : World} {b N : Nat} {d : Array Int} (h : So w b N d W) : So w b N d W.drew := h.drewN 1
theorem Sz.set {b i : Nat} {w W : World} (h : Sz b w W) (u : Value) : Sz b w (W.setCell ⟨b, i, none⟩ u) := fun cur cur0 h1 h0 => by
  cases hb : W.heap[b]? with
  | none =>
    have : (W.setCell ⟨b, i, none⟩ u).heap[b]? = none := by
      rw [Array.getElem?_eq_none_iff] at hb ⊢
      simpa [World.setCell] using hb
    rw [this] at h1; cases h1
  | some o =>
    cases o with
    | cells cs T fz =>
      by_cases e : (.cells cs T fz : Obj) = .cells cs 25 (0, 0)
      · rw [e] at hb
        have h2 := row_set (k := i) (u := u) hb
        rw [h2] at h1
        cases h1
        have := h cs cur0 hb h0
        simpa using this
      · exact (e (by
          have hk : ∃ cs', (W.setCell ⟨b, i, none⟩ u).heap[b]? = some (.cells cs' T fz) := by
            refine ⟨cs.setIfInBounds i u, ?_⟩
            have hlt := lt_of_block hb
            have h' : W.heap[b] = .cells cs T fz := by simpa [Array.getElem?_eq_getElem hlt] using hb
            show (W.heap.modify b _)[b]? = _
            rw [Array.getElem?_eq_getElem (by simpa using hlt), Array.getElem_modify_self, h']
            rfl
          obtain ⟨cs', hk⟩ := hk
          rw [hk] at h1
          cases h1
          rfl)).elim
    | _ =>
      exfalso
      have hlt := lt_of_block hb
      have h' := hb
      rw [Array.getElem?_eq_getElem hlt] at h'
      have h3 : (W.setCell ⟨b, i, none⟩ u).heap[b]? = W.heap[b]? := by
        show (W.heap.modify b _)[b]? = _
        rw [Array.getElem?_eq_getElem (by simpa using hlt), Array.getElem_modify_self, Option.some.inj h', hb]
      rw [h3, hb] at h1
      cases h1
theorem swp_comm (d : Array Int) (i j : Nat) : Sort.swp d j i = Sort.swp d i j := by
  unfold Sort.swp
  by_cases e : i = j
  · subst e; rfl
  · rw [Array.setIfInBounds_comm _ _ (fun h => e h.symm)]
theorem So.swp {w W : World} {b N : Nat} {d : Array Int} (h : So w b N d W) (i j : Nat) {x y : Int} (hx : d[i]! = x) (hy : d[j]! = y) : So w b N (Sort.swp d i j) ((W.setCell ⟨b, i, none⟩ (.int .u64 y)).setCell ⟨b, j, none⟩ (.int .u64 x)) := by
  subst hx hy
  exact ⟨by rw [Sort.size_swp]; exact h.1, (h.2.1.set i _).set j _, (h.2.2.1.trans (Fb.set (by exact rfl) _) fun k hk => .inl hk).trans (Fb.set (by exact rfl) _) fun k hk => .inl hk, (h.2.2.2.set _).set _⟩
/-- The same, the stores the other way round. -/
theorem So.swp' {w W : World} {b N : Nat} {d : Array Int} (h : So w b N d W) (i j : Nat) {x y : Int} (hx : d[i]! = x) (hy : d[j]! = y) : So w b N (Sort.swp d i j) ((W.setCell ⟨b, j, none⟩ (.int .u64 x)).setCell ⟨b, i, none⟩ (.int .u64 y)) := by
  rw [← swp_comm]; exact h.swp j i hy hx
theorem unan_any (x : Int) (w : World) : Calls Try.prog 62 #[.int .u64 x] w fun e w' => e = .returned (.bool false) ∧ w = w' := by
  go_enter Try.func62, Try.ntmps62
  go_wp2
  go_ret
  exact ⟨rfl, rfl⟩
theorem uless_any (x y : Int) (w : World) : Calls Try.prog 52 #[.int .u64 x, .int .u64 y] w fun e w' => e = .returned (.bool (decide (x < y))) ∧ w = w' := by
  have hN := fun (W : World) => unan_any x W
  go_enter Try.func52, Try.ntmps52
  go_wp2_with fail
  refine (hN _).mono ?_
  rintro e w' ⟨rfl, rfl⟩
  go_wp2
  go_ret
  exact ⟨rfl, rfl⟩
theorem ins_lo {lo j : Nat} (d : Array Int) (h : ¬ lo < j) : Sort.insInner Sort.ltInt lo j d = d := by
  cases j with
  | zero => rfl
  | succ j => rw [Sort.insInner, if_neg (by simp; omega)]
theorem ins_no {lo j jp : Nat} {d : Array Int} {x y : Int} (h : j = jp + 1) (hx : d[j]! = x) (hy : d[jp]! = y) (hxy : ¬ x < y) : Sort.insInner Sort.ltInt lo j d = d := by
  subst h hx hy
  rw [Sort.insInner, if_neg (by simp [Sort.ltInt]; omega)]
theorem ins_go {lo j jp : Nat} {d : Array Int} {x y : Int} (h : j = jp + 1) (hl : lo < j) (hx : d[j]! = x) (hy : d[jp]! = y) (hxy : x < y) : Sort.insInner Sort.ltInt lo j d = Sort.insInner Sort.ltInt lo jp (Sort.swp d j jp) := by
  subst h hx hy
  rw [Sort.insInner, if_pos (by simp [Sort.ltInt]; omega)]
set_option maxHeartbeats 4000000 in
theorem uins {b N cap : Nat} {d : Array Int} {w W : World} (lo hi : Nat) (h : So w b N d W) (hc : N ≤ cap) (hm : N ≤ 100000) (hhi : hi ≤ N) (hlo : lo ≤ N) :
    Calls Try.prog 46 #[.slice (some ⟨b, 0, none⟩) N cap, .int .i64 lo, .int .i64 hi] W fun e w' => e = .returned (.tuple #[]) ∧ So w b N (Sort.insertionSort Sort.ltInt d lo hi) w' := by
  obtain ⟨R, HRe⟩ : ∃ R, Hid (Sort.insertionSort Sort.ltInt d lo hi = R) := ⟨_, rfl⟩
  rw [HRe.out]
  have HR0 : Hid (So w b N d W ∧ Sort.insOuter Sort.ltInt lo hi (lo + 1) d = R) := ⟨h, HRe.out⟩
  clear h HRe
  go_enter Try.func46, Try.ntmps46
  go_wp2_with fail
  go_loopw [6] (fun i W => ∃ (k : Nat) (d0 : Array Int), k ≤ lo + hi + 1 ∧ i = .int .i64 k ∧ Hid (So w b N d0 W ∧ Sort.insOuter Sort.ltInt lo hi k d0 = R)) (fun i _ => lo + hi + 1 - (intOf i).toNat)
  case atStart => exact ⟨lo + 1, d, by omega, by go_num, HR0⟩
  case round =>
  obtain ⟨i, d0, hi1, rfl, HR⟩ := hrel
  rename World => wr
  clear HR0
  by_cases hlt : i < hi
  · have q1 : (i : Int) < (hi : Int) := by omega
    obtain ⟨R2, HR2⟩ : ∃ R2, Hid (Sort.insInner Sort.ltInt lo i d0 = R2 ∧ Sort.insOuter Sort.ltInt lo hi (i + 1) R2 = R) := by
      refine ⟨_, rfl, ?_⟩
      have e := HR.out.2
      rw [Sort.insOuter, if_pos hlt] at e
      exact e
    go_wp2_with fail
    go_loopw [7] (fun j W => ∃ (k : Nat) (d1 : Array Int), k ≤ i ∧ j = .int .i64 k ∧ Hid (So w b N d1 W ∧ Sort.insInner Sort.ltInt lo k d1 = R2)) (fun j _ => (intOf j).toNat)
    case atStart => exact ⟨i, d0, Nat.le_refl _, rfl, ⟨HR.out.1, HR2.out.1⟩⟩
    case round =>
    obtain ⟨j, d1, hj, rfl, HR1⟩ := hrel
    rename World => wj
    clear HR
    by_cases hgt : lo < j
    · have g1 : decide ((lo : Int) < (j : Int)) = true := decide_eq_true (by omega)
      have g2 : (lo : Int) < (j : Int) := by omega
      obtain ⟨jp, hjp⟩ : ∃ jp : Nat, (j : Int) - 1 = (jp : Int) := ⟨j - 1, by omega⟩
      obtain ⟨x, HX⟩ : ∃ x, Hid (d1[j]! = x) := ⟨_, rfl⟩
      obtain ⟨y, HY⟩ : ∃ y, Hid (d1[jp]! = y) := ⟨_, rfl⟩
      have cx := HR1.out.1.cell (i := j) (by omega)
      have cy := HR1.out.1.cell (i := jp) (by omega)
      rw [HX.out] at cx
      rw [HY.out] at cy
      have b1 : (j : Int) < (N : Int) := by omega
      have b2 : (jp : Int) < (N : Int) := by omega
      have hw1 : IntKind.i64.wrap (jp : Int) = (jp : Int) := wrapN (by omega)
      go_wp2_with fail
      go_quiet ((go_at_call 52; exact Calls.quiet_of_same ((uless_any x y _).mono fun e w' h => ⟨h.1, h.2.symm⟩)))
      have HR3 : Hid (So w b N d1 (wj.drewN nq) ∧ Sort.insInner Sort.ltInt lo j d1 = R2) := ⟨HR1.out.1.drewN nq, HR1.out.2⟩
      clear HR1 cx cy
      generalize wj.drewN nq = w1 at *
      by_cases hxy : x < y
      · rw [decide_eq_true hxy]
        have cx := HR3.out.1.cell (i := j) (by omega)
        have cy := HR3.out.1.cell (i := jp) (by omega)
        rw [HX.out] at cx
        rw [HY.out] at cy
        have f1 := HR3.out.1.frozen j
        have f2 := HR3.out.1.frozen jp
        have hne : ¬ j = jp := by omega
        have hne' : ¬ jp = j := by omega
        have HE : Hid (Sort.insInner Sort.ltInt lo jp (Sort.swp d1 j jp) = R2) := (ins_go (by omega) hgt HX.out HY.out hxy).symm.trans HR3.out.2
        have HR4 := hid (HR3.out.1.swp j jp HX.out HY.out).drew
        have HR5 := hid (HR3.out.1.swp' j jp HX.out HY.out).drew
        clear HR3 HX HY
        go_wp2_with fail
        go_region
        all_goals
          go_wp2_with fail
          go_round
          case rel => first | exact ⟨jp, _, by omega, rfl, ⟨HR4.out, HE.out⟩⟩ | exact ⟨jp, _, by omega, rfl, ⟨HR5.out, HE.out⟩⟩
          case measure => simp [intOf]; omega
      · rw [decide_eq_false hxy]
        have HE : Hid (d1 = R2) := (ins_no (lo := lo) (j := j) (jp := jp) (by omega) HX.out HY.out hxy).symm.trans HR3.out.2
        go_wp2_with fail
        go_round
        case rel => exact ⟨i + 1, d1, by omega, by go_num, ⟨HR3.out.1, by rw [HE.out]; exact HR2.out.2⟩⟩
        case measure => simp [intOf]; omega
    · have g1 : decide ((lo : Int) < (j : Int)) = false := decide_eq_false (by omega)
      have g2 : ¬ (lo : Int) < (j : Int) := by omega
      go_wp2_with fail
      go_quiet (fail)
      have HR3 : Hid (So w b N d1 (wj.drewN nq) ∧ d1 = R2) := ⟨HR1.out.1.drewN nq, (ins_lo d1 hgt).symm.trans HR1.out.2⟩
      clear HR1
      generalize wj.drewN nq = w1 at *
      go_wp2_with fail
      go_round
      case rel => exact ⟨i + 1, d1, by omega, by go_num, ⟨HR3.out.1, by rw [HR3.out.2]; exact HR2.out.2⟩⟩
      case measure => simp [intOf]; omega
  · have q1 : ¬ (i : Int) < (hi : Int) := by omega
    have HE : Hid (d0 = R) := by
      have e := HR.out.2
      rw [Sort.insOuter, if_neg hlt] at e
      exact e
    go_wp2
    go_end0
    exact ⟨rfl, by rw [← HE.out]; exact HR.out.1⟩
end Go.Proofs.Ytlhhkgjolilpiaa
