/-
  slices.DeleteFunc over points; lift, Drop.
-/
import Derived.Test.YtaiojhigomdocaaRnDel
namespace Go.Proofs.Ytaiojhigomdocaa
open Go.RowKit Go.Maps Go.Shelf Go.Sort
set_option linter.unusedVariables false
set_option maxRecDepth 1000000

/-- The row while points are struck, in memory. -/
def DlW (base : Nat) (w : World) (g n cap gb : Nat) (x : Int) (P Q : List (Int × Int)) (i j : Nat) (W : World) : Prop :=
  DlI x P Q i j ∧ PtAt base W (.slice (some ⟨g, 0, none⟩) n cap) Q ∧ Fb (at1 g) w W ∧ W.cell? ⟨gb, 0, none⟩ = some (.int .u64 x)
set_option maxHeartbeats 4000000 in
theorem udelf {base : Nat} {W : World} {g n cap gb : Nat} {P : List (Int × Int)} {x : Int} (h : PtAt base W (.slice (some ⟨g, 0, none⟩) n cap) P) (hn : P.length = n) (hn2 : n ≤ 100000) (hx : W.cell? ⟨gb, 0, none⟩ = some (.int .u64 x)) (hgb : gb ≠ g) :
    Calls Try.prog 38 #[.slice (some ⟨g, 0, none⟩) n cap, .func (.func 39) #[] #[.pointer (some ⟨gb, 0, none⟩)]] W fun r w' => ∃ m : Nat, r = .returned (.slice (some ⟨g, 0, none⟩) m cap) ∧ Hid (PtAt base w' (.slice (some ⟨g, 0, none⟩) m cap) (keepP x P) ∧ Fb (at1 g) W w') := by
  have hI := uidxf h hn hn2 hx
  have hcap : n ≤ cap ∧ cap ≤ 9223372036854775807 := by
    rcases id h.2 with ⟨hv, _⟩ | ⟨g', cap', cur, hv, _, _, h1, h2, _⟩
    · cases hv
    · obtain ⟨rfl, hn', rfl⟩ : g = g' ∧ n = P.length ∧ cap = cap' := by simpa using hv
      unfold maxLen at h2
      omega
  have HB := hid fun (W' : World) (hb : RowKit.Below W.heap.size W W') => (⟨h.same fun b hb3 => by
      obtain ⟨cur, hc⟩ := h.blk hb3
      exact hb.block b (lt_of_block hc), (hb.cell (World.block_lt_of_cell? _ _ hx)).trans hx⟩ : PtAt base W' (.slice (some ⟨g, 0, none⟩) n cap) P ∧ W'.cell? ⟨gb, 0, none⟩ = some (.int .u64 x))
  have HN := hid hn
  clear h hx hn
  go_enter Try.func38, Try.ntmps38
  go_wp2_with fail
  refine hI.mono ?_
  rintro r w1 ⟨q, rfl, HQ⟩
  clear hI
  obtain ⟨hq, hb1⟩ := HQ.out
  clear HQ
  rcases hq with ⟨rfl, hkp⟩ | ⟨k, rfl, hkn, hkp⟩
  · have HF : Hid (PtAt base w1 (.slice (some ⟨g, 0, none⟩) n cap) (keepP x P) ∧ Fb (at1 g) W w1) := ⟨by rw [hkp]; exact (HB.out _ hb1).1, Fb.of hb1⟩
    clear hkp hb1
    go_wp2_with fail
    go_ret
    exact ⟨n, rfl, HF⟩
  · have HI0 : Hid (DlW base W g n cap gb x P P k (k + 1) w1) := ⟨⟨rfl, hkp.symm, rfl, by omega⟩, (HB.out _ hb1).1, Fb.of hb1, (HB.out _ hb1).2⟩
    have hk1 : ¬ (k : Int) = -1 := by omega
    have hk1' : ((k : Int) == -1) = false := by simp
    clear hkp hb1
    go_wp2_with fail
    go_loopw [5, 6] (fun z y W' => ∃ (i j : Nat) (Q : List (Int × Int)), i < j ∧ j ≤ n ∧ z = .int .i64 i ∧ y = .int .i64 j ∧ Hid (DlW base W g n cap gb x P Q i j W')) (fun _ y _ => n - (intOf y).toNat)
    case atStart => exact ⟨k, k + 1, P, by omega, by omega, rfl, by go_num, HI0⟩
    case round =>
    obtain ⟨i, j, Q, hij, hjn, rfl, rfl, HI⟩ := hrel
    rename World => w2
    clear HI0
    by_cases hj : j < n
    · have g1 : (j : Int) < (n : Int) := by omega
      obtain ⟨p, hp⟩ : ∃ p, P[j]? = some p := ⟨P[j]'(by rw [HN.out]; exact hj), List.getElem?_eq_getElem _⟩
      have hqj := HI.out.1.get.trans hp
      have c1 := HI.out.2.1.cell (flatP_get Q j p hqj).1
      have c2 := HI.out.2.1.cell (flatP_get Q j p hqj).2
      have hal : RowKit.Below w2.heap.size w2 (w2.alloc (.cells #[.int .u64 p.1, .int .u64 p.2] 74)) := (RowKit.Below.refl _ _).alloc (Nat.le_refl _) _
      have hcx := HI.out.2.2.2
      have hU := uis (W := w2.alloc (.cells #[.int .u64 p.1, .int .u64 p.2] 74)) (g := gb) (x := x) ((hal.cell (World.block_lt_of_cell? _ _ hcx)).trans hcx) p
      have HK := hid (fun h => HI.out.1.keep hp h)
      have HSk := hid (fun h => HI.out.1.skip hp h)
      have HT : Hid (∀ w3 : World, RowKit.Below (w2.alloc (.cells #[.int .u64 p.1, .int .u64 p.2] 74)).heap.size (w2.alloc (.cells #[.int .u64 p.1, .int .u64 p.2] 74)) w3 →
          PtAt base w3 (.slice (some ⟨g, 0, none⟩) n cap) Q ∧ Fb (at1 g) W w3 ∧ w3.cell? ⟨gb, 0, none⟩ = some (.int .u64 x) ∧ w3.cell? ⟨w2.heap.size, 0, none⟩ = some (.int .u64 p.1) ∧ w3.cell? ⟨w2.heap.size, 1, none⟩ = some (.int .u64 p.2)) := by
        intro w3 hb
        have hb3 : RowKit.Below w2.heap.size w2 w3 := hal.trans (hb.mono hal.size)
        have hn := block_bel (heap_alloc_new w2 (.cells #[.int .u64 p.1, .int .u64 p.2] 74)) hb
        refine ⟨HI.out.2.1.same fun b hb4 => ?_, HI.out.2.2.1.below hb3, (hb3.cell (World.block_lt_of_cell? _ _ hcx)).trans hcx, (cells_two hn).1, (cells_two hn).2⟩
        obtain ⟨cur, hc⟩ := HI.out.2.1.blk hb4
        exact hb3.block b (lt_of_block hc)
      obtain ⟨p1, p2⟩ := p
      obtain ⟨c, Hc⟩ : ∃ c, Hid ((p2 == x) = c) := ⟨_, rfl⟩
      simp only at hU HK HSk HT c1 c2
      rw [Hc.out] at hU HK HSk
      have hiQ : i < Q.length := by rw [HI.out.1.1, HN.out]; omega
      obtain ⟨qi, hqi⟩ : ∃ qi, Q[i]? = some qi := ⟨Q[i], List.getElem?_eq_getElem hiQ⟩
      have HQi := hid hqi
      clear hal hcx HI hqj hp hiQ hqi
      go_wp2_with fail
      refine hU.mono ?_
      rintro r w3 ⟨rfl, H3⟩
      obtain ⟨t1, t2, t3, t4, t5⟩ := HT.out _ H3.out
      have HT3 := hid (And.intro t1 (And.intro t2 t3))
      clear hU HT H3 t1 t2 t3 c1 c2
      cases c with
      | true =>
        have HN2 : Hid (DlW base W g n cap gb x P Q i (j + 1) w3) := ⟨HSk.out rfl, HT3.out.1, HT3.out.2.1, HT3.out.2.2⟩
        clear HK HSk HT3
        go_wp2_with fail
        go_round
        case rel => exact ⟨i, j + 1, Q, by omega, by omega, rfl, by go_num, HN2⟩
        case measure => simp [intOf]; omega
      | false =>
        have HN2 : Hid (DlW base W g n cap gb x P (Q.set i (p1, p2)) (i + 1) (j + 1) ((w3.setCell ⟨g, i * 2, none⟩ (.int .u64 p1)).setCell ⟨g, i * 2 + 1, none⟩ (.int .u64 p2))) :=
          ⟨HK.out rfl, HT3.out.1.set i (p1, p2), HT3.out.2.1.trans (fb_set2 _ _ _ _ _ _) fun k hk => .inl hk, ((fb_set2 w3 g (i * 2) (i * 2 + 1) (.int .u64 p1) (.int .u64 p2)).cell HT3.out.2.2 (fun e => hgb e))⟩
        have d1 := HT3.out.1.cell (flatP_get Q i qi HQi.out).1
        have d2 := HT3.out.1.cell (flatP_get Q i qi HQi.out).2
        have f1 := HT3.out.1.frozen (i * 2)
        have f2 := HT3.out.1.frozen (i * 2 + 1)
        have bi : (i : Int) < (n : Int) := by omega
        clear HK HSk HT3 HQi
        go_wp2_with fail
        go_round
        case rel => exact ⟨i + 1, j + 1, _, by omega, by omega, by go_num, by go_num, HN2⟩
        case measure => simp [intOf]; omega
    · have g1 : ¬ (j : Int) < (n : Int) := by omega
      obtain rfl : j = n := by omega
      have HKp : Hid (keepP x P = Q.take i) := by
        have := HI.out.1.2.1
        rw [show P.take j = P from List.take_of_length_le (by rw [HN.out]; exact Nat.le_refl _)] at this
        exact this.symm
      obtain ⟨vs, hcl⟩ := run_clearPt w2 g (i * 2) (j - i) (cap - i) 0 (fun t ht => by
        have hlt : i * 2 + t < Q.length * 2 := by rw [HI.out.1.1, HN.out]; omega
        rw [HI.out.2.1.cell (flatP_at Q _ hlt)]
        rfl) (fun t => HI.out.2.1.frozen t)
      have HC := hid (HI.out.2.1.cut (show i ≤ j by omega) vs)
      have HF : Hid (PtAt base (w2.setCells g (i * 2) vs) (.slice (some ⟨g, 0, none⟩) i cap) (keepP x P) ∧ Fb (at1 g) W (w2.setCells g (i * 2) vs)) := ⟨by rw [HKp.out]; exact HC.out.1, HI.out.2.2.1.trans HC.out.2 fun k hk => .inl hk⟩
      clear HC HKp HI
      go_wp2_with fail
      go_ret
      exact ⟨i, rfl, HF⟩
end Go.Proofs.Ytaiojhigomdocaa
