/-
  What the statements of layer 10 lean on: far tells of tables that are not too long; the small configuration; two memories that are not the same; Through along a list of vectors; alive is true.
-/
import Derived.Test.YtehmdlipacbpfaaGreatSames
namespace Go.Proofs.YtehmdlipacbpfaaGreat
open Go.RowKit
set_option linter.unusedVariables false
set_option maxRecDepth 1000000

/-- None of these tables is too long. -/
def NotFar (n : Nat) (hs3 : List Hd) (T : Nat → List Hd) : Prop := n ≤ 40 ∧ ∀ i, i < hs3.length → (hs3[i]?.getD (none, 0, 0)).2.1 ≤ 30 ∧ ∀ j, j < (hs3[i]?.getD (none, 0, 0)).2.1 → ((T i)[j]?.getD (none, 0, 0)).2.1 ≤ 40
/-- What far answers. -/
def FarG (w : World) (n : Nat) (hs3 : List Hd) (T : Nat → List Hd) (e : Ending) (w' : World) : Prop := ∃ b, e = .returned (.bool b) ∧ (b = false → NotFar n hs3 T) ∧ w' = w
set_option maxHeartbeats 1000000 in
theorem lfar_any (a : Option Addr) (n cap : Nat) (la : Option Addr) (ln lc : Nat) (hs3 : List Hd) (T : Nat → List Hd) (w : World) (h3 : Rd2 w la ln lc hs3)
    (hT : ∀ i, i < ln → Rd2 w (hs3[i]?.getD (none, 0, 0)).1 (hs3[i]?.getD (none, 0, 0)).2.1 (hs3[i]?.getD (none, 0, 0)).2.2 (T i)) :
    Calls Tryz.prog 5 #[.slice a n cap, .slice la ln lc] w fun e w' => FarG w n hs3 T e w' := by
  have H3 := hid h3
  have HT := hid hT
  have r3 := h3.room
  have m3 := h3.most
  have HL := hid h3.size
  clear h3 hT
  go_enter Tryz.func5, Tryz.ntmps5
  go_wp2_with fail
  go_loop [11] (fun i => ∃ k : Nat, k ≤ ln ∧ i = .int .i64 k ∧ Hid (∀ i, i < k → (hs3[i]?.getD (none, 0, 0)).2.1 ≤ 30 ∧ ∀ j, j < (hs3[i]?.getD (none, 0, 0)).2.1 → ((T i)[j]?.getD (none, 0, 0)).2.1 ≤ 40)) (fun i => ln - (intOf i).toNat)
  case atStart => exact ⟨0, Nat.zero_le _, rfl, fun i hi => absurd hi (by omega)⟩
  case round =>
    obtain ⟨k, hk, rfl, HA⟩ := hrel
    by_cases hlt : k < ln
    · obtain ⟨b1, o1, rfl, c1⟩ := H3.out.cell k hlt
      have HTk := hid (HT.out k hlt)
      have r2 := HTk.out.room
      have m2 := HTk.out.most
      have q1 : (k : Int) < (ln : Int) := by omega
      have HNx : Hid ((hs3[k]?.getD (none, 0, 0)).2.1 ≤ 30 → (∀ j, j < (hs3[k]?.getD (none, 0, 0)).2.1 → ((T k)[j]?.getD (none, 0, 0)).2.1 ≤ 40) → ∀ i, i < k + 1 → (hs3[i]?.getD (none, 0, 0)).2.1 ≤ 30 ∧ ∀ j, j < (hs3[i]?.getD (none, 0, 0)).2.1 → ((T i)[j]?.getD (none, 0, 0)).2.1 ≤ 40) := by
        intro h1 h2 i hi
        rcases (by omega : i < k ∨ i = k) with h | rfl
        · exact HA.out i h
        · exact ⟨h1, h2⟩
      clear H3 HT HL HA
      generalize hs3[k]?.getD (none, 0, 0) = y at *
      obtain ⟨y1, y2, y3⟩ := y
      simp only at c1 HTk r2 m2 HNx
      by_cases h30 : y2 ≤ 30
      · go_wp2_with fail
        go_loop [20] (fun i => ∃ j : Nat, j ≤ y2 ∧ i = .int .i64 j ∧ Hid (∀ x, x < j → ((T k)[x]?.getD (none, 0, 0)).2.1 ≤ 40)) (fun i => y2 - (intOf i).toNat)
        case atStart => exact ⟨0, Nat.zero_le _, rfl, fun i hi => absurd hi (by omega)⟩
        case round =>
          obtain ⟨j, hj, rfl, HJ⟩ := hrel
          by_cases hjl : j < y2
          · obtain ⟨b2, o2, rfl, c2⟩ := HTk.out.cell j hjl
            have q2 : (j : Int) < (y2 : Int) := by omega
            have HJx : Hid (((T k)[j]?.getD (none, 0, 0)).2.1 ≤ 40 → ∀ x, x < j + 1 → ((T k)[x]?.getD (none, 0, 0)).2.1 ≤ 40) := by
              intro h1 i hi
              rcases (by omega : i < j ∨ i = j) with h | rfl
              · exact HJ.out i h
              · exact h1
            clear HTk HJ
            generalize (T k)[j]?.getD (none, 0, 0) = z at *
            obtain ⟨z1, z2, z3⟩ := z
            simp only at c2 HJx
            by_cases h40 : z2 ≤ 40
            · go_wp2_with fail
              go_round
              case rel => exact ⟨j + 1, by omega, by go_num, HJx.out h40⟩
              case measure => simp [intOf]; omega
            · go_wp2
              go_ret
              exact ⟨true, rfl, (fun h => by cases h), rfl⟩
          · obtain rfl : j = y2 := by omega
            have HNy := hid (HNx.out h30 HJ.out)
            clear HTk HJ HNx
            go_wp2_with fail
            go_round
            case rel => exact ⟨k + 1, by omega, by go_num, HNy⟩
            case measure => simp [intOf]; omega
      · go_wp2
        go_ret
        exact ⟨true, rfl, (fun h => by cases h), rfl⟩
    · obtain rfl : k = ln := by omega
      by_cases h40 : n ≤ 40
      · have HN : Hid (NotFar n hs3 T) := ⟨h40, fun i hi => HA.out i (by rw [← HL.out]; exact hi)⟩
        clear H3 HT HL HA
        go_wp2
        go_ret
        exact ⟨_, rfl, fun _ => HN.out, rfl⟩
      · clear H3 HT HL HA
        have h41 : 40 < n := by omega
        go_wp2
        go_ret
        exact ⟨_, rfl, fun h => absurd h (by simp; omega), rfl⟩
theorem small_any (w : World) : Calls Tryz.prog 15 #[] w fun e w' => e = .returned (.agg (CfV ⟨5, 4, 2, 2, 1, 0⟩)) ∧ Below w.heap.size w w' := by
  go_enter Tryz.func15, Tryz.ntmps15
  go_wp2
  exact bodyPost_ret (v := .agg (CfV ⟨5, 4, 2, 2, 1, 0⟩)) (by simp [results, Tryz.results15, go_sem, CfV]) rfl ⟨rfl, by go_grown⟩
theorem may_small : mayB ⟨5, 4, 2, 2, 1, 0⟩ = true := by decide
set_option maxHeartbeats 1000000 in
theorem eqplaces_no (a b : Option Addr) (n : Nat) (M N : List KV) (w : World) (ha : PlR w a n M) (hb : PlR w b n N) (h1 : 1 ≤ n) (hd : (kv M 0).1.length ≠ (kv N 0).1.length) (h2 : (kv M 0).1.length ≤ 1000) (h3 : (kv N 0).1.length ≤ 1000) (hn : n ≤ 4) :
    Calls Tryz.prog 50 #[.slice a n n, .slice b n n, .func (.func 51) #[] #[]] w fun e w' => e = .returned (.bool false) ∧ Below w.heap.size w w' := by
  obtain ⟨g1, ps1, rfl, o1, x1, x2⟩ := ha.cell 0 (by omega)
  obtain ⟨g2, ps2, rfl, o2, x3, x4⟩ := hb.cell 0 (by omega)
  have c1 := o1.cell0 (k := 0) (by omega)
  have c2 := o1.cell1 (k := 0) (by omega)
  have c3 := o2.cell0 (k := 0) (by omega)
  have c4 := o2.cell1 (k := 0) (by omega)
  rw [Nat.zero_mul] at c1 c2 c3 c4
  rw [Nat.zero_add] at c2 c4
  have e1 := x1.1
  have e3 := x3.1
  clear ha hb x1 x2 x3 x4 o1 o2
  generalize pk ps1 0 = y at *
  generalize pk ps2 0 = z at *
  obtain ⟨⟨y1, y2, y3⟩, ⟨y4, y5, y6⟩⟩ := y
  obtain ⟨⟨z1, z2, z3⟩, ⟨z4, z5, z6⟩⟩ := z
  unfold hdV at c1 c2 c3 c4
  simp only at c1 c2 c3 c4 e1 e3
  rw [e1] at h2 hd
  rw [e3] at h3 hd
  have hA : Below w.heap.size w (w.alloc (.cells #[.slice y1 y2 y3, .slice y4 y5 y6] 77)) := (Below.refl _ _).alloc (Nat.le_refl _) _
  have c5 := cell_later_of c3 hA
  have c6 := cell_later_of c4 hA
  obtain ⟨W0, hW0⟩ : ∃ W0, W0 = (w.alloc (.cells #[.slice y1 y2 y3, .slice y4 y5 y6] 77)).alloc (.cells #[.slice z1 z2 z3, .slice z4 z5 z6] 77) := ⟨_, rfl⟩
  have HB0 : Hid (Below w.heap.size w W0) := by unfold Hid; rw [hW0]; exact ((Below.refl _ _).alloc (Nat.le_refl _) _).alloc (by simp) _
  have HC := hid (psame_no y1 y4 z1 z4 y2 y5 y3 y6 z2 z5 z3 z6 W0 hd h2 h3)
  clear e1 e3 hA hd h2 h3
  have q1 : (0 : Int) < (n : Int) := by omega
  have q2 : 0 < n := by omega
  go_enter Tryz.func50, Tryz.ntmps50
  go_wp2_with fail
  go_loopw [17] (fun i W => i = .int .i64 0 ∧ W = w) (fun i _ => 0)
  case atStart => exact ⟨rfl, rfl⟩
  case round =>
    obtain ⟨rfl, rfl⟩ := hrel
    go_wp2_with fail
    rw [← hW0]
    refine HC.out.mono ?_
    rintro e w2 ⟨rfl, hb⟩
    have HW := hid (HB0.out.trans (hb.mono HB0.out.size))
    clear hb HC c1 c2 c3 c4 c5 c6 HB0 hW0
    go_wp2
    go_ret
    exact ⟨rfl, HW.out⟩
theorem msame_no (p q : Option Addr) (M N : List KV) (w : World) (ha : MemAt w p M) (hb : MemAt w q N) (hMN : N.length = M.length) (h1 : 1 ≤ M.length) (hd : (kv M 0).1.length ≠ (kv N 0).1.length) (h2 : (kv M 0).1.length ≤ 1000) (h3 : (kv N 0).1.length ≤ 1000) (hn : M.length ≤ 4) :
    Calls Tryz.prog 19 #[.pointer p, .pointer q] w fun e w' => e = .returned (.bool false) ∧ Below w.heap.size w w' := by
  have HA := hid (all_g p M w ha)
  have HB := hid (all_g q N w hb)
  rw [hMN] at HB
  have HD := hid hd
  have H2 := hid h2
  have H3 := hid h3
  clear ha hb hd h2 h3 hMN
  go_enter Tryz.func19, Tryz.ntmps19
  go_wp2_with fail
  refine HA.out.mono ?_
  rintro e w' ⟨a, rfl, hP, rfl⟩
  rename World => w
  have HP := hid hP
  clear hP HA
  go_wp2_with fail
  refine HB.out.mono ?_
  rintro e w' ⟨b, rfl, hP, rfl⟩
  rename World => w
  have HQ := hid hP
  clear hP HB
  go_wp2_with fail
  refine (eqplaces_no a b M.length M N _ HP.out HQ.out h1 HD.out H2.out H3.out hn).mono ?_
  rintro e w2 ⟨rfl, hb⟩
  have HW := hid hb
  clear hb HP HQ HD H2 H3
  go_wp2
  go_ret
  exact ⟨rfl, HW.out⟩

/-- Through, along a list of vectors. -/
theorem memL_even (c : Cf) (L : Nat) (xs : List (List Int)) (k : Nat) : Even (memL c L xs k) k := fun i hi => memL_at c L xs k (by rw [memL_len] at hi; exact hi)
theorem cf_lay {c : Cf} (h : mayB c = true) : ∃ L : Nat, c = ⟨c.seed, c.vocab, c.dim, (L : Int), c.top, c.heat⟩ ∧ c.layers = L ∧ c.layers.toNat = L ∧ 1 ≤ L ∧ L ≤ 4 := by
  have := may_parts h
  refine ⟨c.layers.toNat, ?_, (Int.toNat_of_nonneg (by omega)).symm, rfl, by omega, by omega⟩
  rw [Int.toNat_of_nonneg (by omega)]
theorem through_any (p : Option Addr) (c : Cf) (qm : Option Addr) (M : List KV) (q0 : Nat) (a : Option Addr) (n cap : Nat) (zs : List Int) (w : World) (hp : MdAt w p c) (hc : mayB c = true) (hm : MemAt w qm M) (hM : M.length ≤ 4) (hE : Even (fromM M c.layers.toNat) q0) (hq : q0 ≤ 900)
    (hx : Reads .i64 w a n cap zs) (hn : n ≤ 1000) :
    Calls Tryz.prog 12 #[.pointer p, .pointer qm, .slice a n cap] w fun e w' => ThrG w (thrX c (fromM M c.layers.toNat) zs c.layers.toNat) (thrM c (fromM M c.layers.toNat) zs c.layers.toNat) e w' := by
  obtain ⟨L, h1, h2, h3, h4, h5⟩ := cf_lay hc
  obtain ⟨s, v, d, l, tt, h⟩ := c
  simp only at h2 h3
  subst h2
  rw [h3] at hE ⊢
  exact through_nat p s v d tt h L qm M q0 a n cap zs w hp hc h5 hm hM hE hq hx hn h4
theorem through_mem (p : Option Addr) (c : Cf) (qm : Option Addr) (xs : List (List Int)) (k : Nat) (a : Option Addr) (n cap : Nat) (w : World) (hp : MdAt w p c) (hc : mayB c = true) (hm : MemAt w qm (memL c c.layers.toNat xs k)) (hk : k ≤ 900)
    (hx : Reads .i64 w a n cap (xs[k]?.getD [])) (hn : n ≤ 1000) :
    Calls Tryz.prog 12 #[.pointer p, .pointer qm, .slice a n cap] w fun e w' => ThrG w (madeL c c.layers.toNat xs k) (memL c c.layers.toNat xs (k + 1)) e w' := by
  have hp4 := may_parts hc
  have hF : fromM (memL c c.layers.toNat xs k) c.layers.toNat = memL c c.layers.toNat xs k := by unfold fromM; rw [if_pos (memL_len _ _ _ _)]
  have := through_any p c qm (memL c c.layers.toNat xs k) k a n cap (xs[k]?.getD []) w hp hc hm (by rw [memL_len]; omega) (by rw [hF]; exact memL_even _ _ _ _) hk hx hn
  rw [hF] at this
  exact this
theorem tabL_dim {c : Cf} {la wh : Int} (l0 : 0 ≤ la) (l1 : la < c.layers) (w0 : 0 ≤ wh) (w1 : wh ≤ 5) : (tabL c la wh).length = c.dim.toNat := by unfold tabL; rw [if_pos ⟨l0, l1, w0, w1⟩, tblK_len]
theorem outL_dim {c : Cf} {la : Int} (l0 : 0 ≤ la) (l1 : la < c.layers) {x : List Int} (hx : x.length = c.dim.toNat) (ks vs : List (List Int)) : (outL c la x ks vs).length = c.dim.toNat := by
  have hh : (hidL c la x ks vs).length = c.dim.toNat := by
    unfold hidL
    rw [addL_len, mulT_len, tabL_dim l0 l1 (by omega) (by omega)]
    omega
  unfold outL fwdL
  rw [addL_len, mulT_len, tabL_dim l0 l1 (by omega) (by omega)]
  omega
theorem thrX_dim {c : Cf} (M : List KV) {x : List Int} (hx : x.length = c.dim.toNat) (k : Nat) (hk : (k : Int) ≤ c.layers) : (thrX c M x k).length = c.dim.toNat := by
  induction k with
  | zero => exact hx
  | succ k ih => simp only [thrX]; exact outL_dim (by omega) (by omega) (ih (by omega)) _ _
end Go.Proofs.YtehmdlipacbpfaaGreat
