/-
  slices.Sorted(maps.Keys(m)) over the map of replicas: a new row, the numbers rising.
-/
import Derived.Test.YtlhhkgjolilpiaaMbMap
import Derived.Test.YtlhhkgjolilpiaaSoJ
import Derived.RangeFuncNested
import Derived.RangeFuncBound
import Derived.RangeFuncCalls
import Derived.RangeFuncLeaves
import Derived.RangeFuncOne
import Derived.Shelf.AbstractIn
import Derived.Sort.MapsRangeIn
import Derived.Sort.KeysCollected
import Derived.WalkKit
import Derived.OwnWalkIn
import Derived.TacticsInMore
import Derived.LoopNIn
import Derived.LoopIn
import Derived.RegionIn
import Derived.Maps.AppendAt
namespace Go.Proofs.Ytlhhkgjolilpiaa
open Go.RowKit Go.Maps Go.Shelf
set_option linter.unusedVariables false
set_option maxRecDepth 1000000

/-- The map in block B has just the keys of L. -/
def KmAt (W : World) (B : Nat) (L : List Int) : Prop :=
  ∃ D : DataW Unit, W.ownsMap Try.prog 25 Rp B L.length D ∧ (∀ x, isU x → Maps.has D (.int .u64 x) = decide (x ∈ L)) ∧ Maps.size D = L.length ∧ L.Nodup ∧ ∀ x ∈ L, isU x
theorem KmAt.lt {W : World} {B : Nat} {L : List Int} (h : KmAt W B L) : B < W.heap.size := by obtain ⟨D, h1, _⟩ := h; exact h1.lt
theorem KmAt.same {W W' : World} {B : Nat} {L : List Int} (h : KmAt W B L) (hb : W'.heap[B]? = W.heap[B]?) : KmAt W' B L := by
  obtain ⟨D, ⟨es, clock, h1, h2⟩, h3⟩ := h
  exact ⟨D, ⟨es, clock, hb.trans h1, h2⟩, h3⟩
theorem KmAt.below {W W' : World} {B : Nat} {L : List Int} (h : KmAt W B L) (hb : Below W.heap.size W W') : KmAt W' B L := h.same (hb.block _ h.lt)
theorem MqAt.keys {W : World} {M : Nat} {L : List (Int × Nat)} (h : MqAt W M L) : KmAt W M (L.map fun q => q.1) := by
  obtain ⟨D, h1, h2, h3, h4, h5⟩ := h
  refine ⟨D, by rw [List.length_map]; exact h1, fun x hx => ?_, by rw [List.length_map]; exact h3, h4, fun x hx => ?_⟩
  · rw [(h2 x hx).2]
    cases hl : lkQ L x with
    | none =>
      refine (decide_eq_false fun hm => ?_).symm
      obtain ⟨b, hb, e⟩ := List.mem_map.1 hm
      exact lkQ_none.1 hl b hb e
    | some p =>
      obtain ⟨b, hb, e, _⟩ := lkQ_some hl
      exact (decide_eq_true (List.mem_map.2 ⟨b, hb, e⟩)).symm
  · obtain ⟨b, hb, rfl⟩ := List.mem_map.1 hx
    exact h5 b hb
/-- What has come of the keys: no number twice; those that are no longer to come. -/
def ClU (D0 : DataW Unit) (left : Lit → Bool) (ss : List Int) : Prop := ss.Nodup ∧ (∀ x ∈ ss, isU x) ∧ ∀ x, isU x → (x ∈ ss ↔ (has D0 (.int .u64 x) = true ∧ left (.int .u64 x) = false))
theorem ClU.start (D0 : DataW Unit) : ClU D0 (has D0) [] := ⟨List.nodup_nil, by simp, fun x _ => by cases has D0 (.int .u64 x) <;> simp⟩
theorem ClU.step {D0 : DataW Unit} {left : Lit → Bool} {ss : List Int} (h : ClU D0 left ss) {x : Int} {y : DataW Unit} (hx : isU x) (hlk : left (.int .u64 x) = true) (hat : ∀ zd, D0.atKey (.int .u64 x) zd = y) : ClU D0 (fun z => left z && !z.sameKey (.int .u64 x)) (ss ++ [x]) := by
  have hhas : has D0 (.int .u64 x) = true := has_true_of_atKey hat
  have hnew : x ∉ ss := fun hi => by have := ((h.2.2 x hx).1 hi).2; rw [hlk] at this; cases this
  refine ⟨List.nodup_append.2 ⟨h.1, by simp, fun a ha b hb => by simp at hb; subst hb; exact fun e => hnew (e ▸ ha)⟩, fun y hy => ?_, fun y hy => ?_⟩
  · rcases List.mem_append.1 hy with h' | h'
    · exact h.2.1 y h'
    · simp at h'; exact h' ▸ hx
  · by_cases e : y = x
    · subst e; simp [hhas, Lit.sameKey]
    · simp [h.2.2 y hy, e, Lit.sameKey]
set_option maxHeartbeats 2000000 in
theorem ukeys1 (F : Fence) (n : Nat) (h10 : F.fn 42) (hro : F.round = none) (hn : 1 ≤ n) (l Bm b : Nat) (L : List Int) (J Jx : List Int → World → Prop)
    (hY : ∀ pre x W, J pre W → pre.length < L.length → YieldAt F (n - 1) Try.prog l #[.int .u64 x] W fun e W' =>
      (e = .returned (.bool true) ∧ J (pre ++ [x]) W' ∧ KeepsWalks W W') ∨ (e = .returned (.bool false) ∧ Jx (pre ++ [x]) W'))
    (W : World) (hJ : AbidesFrom W.heap.size J) (hm : W.cell? ⟨Bm, 0, none⟩ = some (.map (some b))) (hS : KmAt W b L) (h0 : J [] W) :
    CallsIn F n Try.prog 42 #[.func (.yield l) #[] #[], .pointer (some ⟨Bm, 0, none⟩)] W fun e W' => (∃ v, e = .returned v) ∧
      ((∃ ss : List Int, ss.Perm L ∧ J ss W') ∨ (∃ pre : List Int, True ∧ Jx pre W')) := by
  obtain ⟨D0, hown, hhas, hsz, hnd, hU⟩ := hS
  refine callsIn_of_wp Try.func42 rfl h10 ?_ hro
  simp only [Try.ntmps42, List.size_toArray, List.length_cons, List.length_nil, Nat.reduceAdd, Nat.reduceSub, Array.replicate_succ, Array.replicate_zero, List.push_toArray, List.append_toArray, List.nil_append, List.cons_append]
  gi_wp2_with (first
    | (gi_at_range; refine wpListIn_range_own _ rfl _ 59 rfl 25 65 alaw Try.underlying59 _ b L.length _ rfl hown ?_; intro w0 hrg0 hg0 hs0)
    | gi_in)
  go_frame
  gi_loopw [3] (fun _ wr => ∃ (left : Lit → Bool) (cnt : Nat) (ss : List Int), wr.ranges Try.prog 25 Rp b W.heap.size L.length D0 left cnt ∧ ss.length + cnt ≤ L.length ∧ ClU D0 left ss ∧ J ss wr)
    (fun _ wr => wr.rangeLeft b W.heap.size)
  case atStart =>
    exact ⟨_, _, [], hrg0, by simp [hsz], ClU.start D0, hJ [] W w0 none h0 hg0 (fun r e => by cases e)⟩
  case round =>
    obtain ⟨left, cnt, ss, hrg, hcs, hC, hJs⟩ := hrel
    gi_wp2_with (first
      | (gi_at_next; refine wpListIn_next_ranges _ rfl _ rfl 25 alaw Rp (Value.int .u64) id (fun key kl hk => by obtain ⟨x, hx, _⟩ := akey_inv hk; exact ⟨x, hx⟩) (fun v _ _ => ⟨v, rfl⟩) b W.heap.size L.length _ _ _ rfl hrg ?_ ?_)
      | gi_in)
    · intro hc0 hl0
      gi_wp2
      go_end0
      refine ⟨⟨_, rfl⟩, .inl ⟨ss, (List.perm_ext_iff_of_nodup hC.1 hnd).2 fun x => ?_, hJs⟩⟩
      constructor
      · intro hx
        have := ((hC.2.2 x (hC.2.1 x hx)).1 hx).1
        rw [hhas x (hC.2.1 x hx)] at this
        simpa using this
      · intro hx
        rw [hC.2.2 x (hU x hx), hl0, hhas x (hU x hx)]
        simpa using hx
    · intro x c kl yd yp w2 cnt2 hkey hlk hv hat hrg2 hlt hg2 hs2 hen
      obtain ⟨x', ex, rfl, hxU⟩ := akey_inv hkey
      obtain rfl : x = x' := by simpa using ex
      have hJ2 : J ss w2 := hJ ss wr w2 (some W.heap.size) hJs hg2 (fun r e => by cases e; exact ⟨Nat.le_refl _, hrg.iter_walk⟩)
      obtain ⟨fn, tmps, assign, body, hy, hR⟩ := hY ss x w2 hJ2 (by omega)
      clear hs2
      gi_wp2
      refine hR.mono ?_
      have hC2 := hC.step hxU hlk hat
      rintro e W3 (⟨rfl, hJ3, hk3⟩ | ⟨rfl, hJx3⟩)
      · gi_wp2
        have hrg3 := hrg2.of_walks hk3
        go_roundw
        case rel => exact ⟨_, cnt2, ss ++ [x], hrg3, by simp; omega, hC2, hJ3⟩
        case measure => rw [hrg3.left_eq, hrg.left_eq]; exact hlt
      · gi_wp2
        refine bodyPost_ret (results_none rfl _ _ _) rfl ?_
        exact ⟨⟨_, rfl⟩, .inr ⟨ss ++ [x], trivial, hJx3⟩⟩
theorem ukeys_stops (F : Fence) (n : Nat) (h10 : F.fn 42) (hro : F.round = none) (hn : 1 ≤ n) (Bm b : Nat) (L : List Int) (w : World) (hBm : Bm < w.heap.size) (hm : w.cell? ⟨Bm, 0, none⟩ = some (.map (some b))) (hS : KmAt w b L) :
    SeqStops F n Try.prog 42 #[.pointer (some ⟨Bm, 0, none⟩)] (Value.int .u64) (fun ss => ss.Perm L) (fun _ => True) L.length w := fun l J Jx W hW hJ _ hY h0 =>
  ukeys1 F n h10 hro hn l Bm b L J Jx hY W hJ ((hW.cell (p := ⟨Bm, 0, none⟩) hBm).trans hm) (hS.below hW) h0
theorem Try.infoU : (Try.prog.info? 25).map (fun i => (i.zero, i.size, i.bytes)) = some (some (.int .u64 0), 1, 8) := by kernel_rfl
set_option maxHeartbeats 4000000 in
theorem uappseq (F : Fence) (n : Nat) (h3 : F.fn 43) (h5 : F.fn 42) (hro : F.round = none) (hn : 3 ≤ n) (Bm b : Nat) (L : List Int) (hlen : L.length ≤ 100000) (w : World) (hBm : Bm < w.heap.size) (hm : w.cell? ⟨Bm, 0, none⟩ = some (.map (some b))) (hS : KmAt w b L) :
    CallsIn F n Try.prog 43 #[.slice none 0 0, .func (.func 42) #[] #[.pointer (some ⟨Bm, 0, none⟩)]] w fun e W' => ∃ (v : Value) (ss : List Int), e = .returned v ∧ ss.Perm L ∧ W'.ownsRow w.heap.size 25 1 v ss.length (ss.map (Value.int .u64)) ∧ (v = .slice none 0 0 ↔ ss = []) ∧ Below w.heap.size w W' := by
  have h1 : 1 ≤ n := by omega
  have hml : (100000 : Nat) ≤ maxLen := by decide
  obtain ⟨i0, hi, hz0, hz1, hz2⟩ := Go.info_parts Try.infoU
  refine callsIn_of_wp_marks Try.func43 rfl h3 ?_ hro
  simp only [Try.ntmps43, List.size_toArray, List.length_cons, List.length_nil, Nat.reduceAdd, Nat.reduceSub, Array.replicate_succ, Array.replicate_zero, List.push_toArray, List.append_toArray, List.nil_append, List.cons_append]
  gi_wp2
  have bO := Boxed.new w 76 (.slice none 0 0)
  have hB0 : Below w.heap.size w (w.alloc (.cells #[.slice none 0 0] 76)) := (Below.refl _ w).alloc (Nat.le_refl _) _
  refine wpIn_rangeFunc_ownF hro h1 (gf := 42) (lb := #[.pointer (some ⟨Bm, 0, none⟩)]) rfl h5 (enters_of Try.func42 (by kernel_rfl) rfl)
    (ukeys_stops F (n - 1) h5 hro (by omega) Bm b L _ (by simp; omega) ((hB0.cell (p := ⟨Bm, 0, none⟩) hBm).trans hm) (hS.below hB0)) walksK_t walksK_b (Below.refl _ _) (fun _ => rfl)
    (fun pre W => (∃ v, Boxed W w.heap.size 76 v ∧ W.ownsRow w.heap.size 25 1 v pre.length (pre.map (Value.int .u64)) ∧ (v = .slice none 0 0 ↔ pre = [])) ∧ Below w.heap.size w W)
    (fun _ _ _ => False)
    (OwnFrom.and (Own.from (holdsRow_own w.heap.size w.heap.size 76 25 1 (fun pre => pre.length) (fun pre => pre.map (Value.int .u64)) (fun pre v => v = .slice none 0 0 ↔ pre = [])) _) (ownFrom_below (Nat.le_refl _) (by simp)))
    (fun _ _ _ _ _ hs _ _ => hs)
    ⟨⟨_, bO, World.ownsRow_nil _ _ _ _, by simp⟩, hB0⟩
    (fun x => { tmps := #[.slice none 0 0, .func (.func 42) #[] #[.pointer (some ⟨Bm, 0, none⟩)], .pointer (some ⟨w.heap.size, 0, none⟩), undef, .slice none 0 0, .int .u64 x, .func (.func 42) #[] #[.pointer (some ⟨Bm, 0, none⟩)], .int .u64 x, undef, undef, undef, undef, undef], defers := [] }) ?assign ?body ?done ?stop
  case assign =>
    intro l x W K hK
    gi_wp2_with (rw [Oper.semAt_eq _ _ _ (fun c h => by cases h)]; go_simp; try go_bits)
    exact hK
  case body =>
    rintro l pre x W ⟨⟨v, hv, hrow, hnil⟩, hB⟩ hlt
    have hc := hv.cell
    gi_wp2_with (first | (gi_at_builtin; refine wpListIn_append_own _ rfl _ _ 76 rfl w.heap.size 25 i0 (.int .u64 0) 1 8 Try.underlying76 hi hz0 hz1 hz2 rfl (by decide) _ _ _ rfl (hrow.alloc _) ⟨W.heap.size, 0, none⟩ 1 1 [.int .u64 x] rfl rfl (cell_one_new _ _ _) (by simp [Value.oneCell']) (by omega) (by omega) (by have := hB.size; simp; omega) ?_; intro v' w1 hown' hgrow _; obtain ⟨g', cap', rfl⟩ := ownsRow_succ hown'; obtain ⟨hv1, hv2, hr2, hk2, hb2⟩ := hv.appended (by decide) hrow hB.size (Nat.le_refl _) hown' hgrow; have hc1 := hv1.cell; have hf1 := hv1.frozen) | (rw [Oper.semAt_eq _ _ _ (fun c h => by cases h)]; go_simp; try go_bits))
    exact ⟨hk2, hk2.walks, ⟨⟨_, hv2, by simpa using hr2, by simp⟩, hB.trans hb2⟩⟩
  case done =>
    rintro D ys W hD hperm ⟨⟨v, hv, hrow, hnil⟩, hB⟩ hK
    have hc := hv.cell
    gi_wp2
    refine ⟨by simp, .inl ⟨_, _, rfl, run_takeDeferred hK, ?_⟩⟩
    exact ⟨_, results_tmp rfl _ _ _, v, ys, rfl, hperm, ownsRow_putObj hrow _ hK rfl, hnil, hB.trans (belowK_b (w := w) (Nat.le_refl _) W D _ _ (by simp at hD; omega) hK rfl rfl)⟩
  case stop =>
    rintro D c pre W _ _ h _
    exact h.elim
theorem ulen (n : Nat) (hn : n ≤ 100000) (W : World) : Calls Try.prog 45 #[.int .u64 n] W fun e w' => e = .returned (.int .i64 (Sort.bitsLen n : Nat)) ∧ w' = W := by
  have h := Any.bits_Len Try.bitsLen (n : Int) W (by omega) (by omega)
  rw [Int.toNat_natCast, bitLen_eq _ (by omega)] at h
  exact h
theorem usort {b N cap : Nat} {d : Array Int} {w W : World} (h : So w b N d W) (hc : N ≤ cap) (hm : N ≤ 100000) :
    Calls Try.prog 41 #[.slice (some ⟨b, 0, none⟩) N cap] W fun e w' => e = .returned (.tuple #[]) ∧ Hid (So w b N (Sort.sort Sort.ltInt d) w') := by
  obtain ⟨l, Hl⟩ : ∃ l, Hid (Sort.bitsLen N = l) := ⟨_, rfl⟩
  have hl : l ≤ 1000 := by
    rw [← Hl.out]
    exact Nat.le_trans ((Sort.bitsLen_le_iff N 64).2 (by omega)) (by omega)
  have hL := fun W : World => ulen N (by omega) W
  rw [Hl.out] at hL
  have HP := hid fun (W : World) (h : So w b N d W) => updq hc hm N 0 N l d W (by omega) (by omega) (Nat.le_refl _) hl h
  have HE : Hid (Sort.pdq Sort.ltInt d 0 N l true true = Sort.sort Sort.ltInt d) := by
    unfold Hid Sort.sort
    rw [h.1, Hl.out]
  have hwu : IntKind.u64.wrap (N : Int) = (N : Int) := by rw [IntKind.wrap_u64]; omega
  have HS := hid h
  clear h
  go_enter Try.func41, Try.ntmps41
  go_wp2_with fail
  refine (hL _).mono ?_
  rintro e w1 ⟨rfl, rfl⟩
  have hp := HP.out _ HS.out
  clear HP HS hL
  go_wp2_with fail
  refine hp.mono ?_
  rintro e w2 ⟨rfl, H2⟩
  clear hp
  rw [HE.out] at H2
  go_wp2_with fail
  go_end0
  exact ⟨rfl, H2⟩
theorem uins_nil (W : World) : Calls Try.prog 46 #[.slice none 0 0, .int .i64 0, .int .i64 0] W fun e w' => e = .returned (.tuple #[]) ∧ w' = W := by
  go_enter Try.func46, Try.ntmps46
  go_wp2_with fail
  go_loopw [6] (fun i W' => i = .int .i64 1 ∧ W' = W) (fun _ _ => 0)
  case atStart => exact ⟨rfl, rfl⟩
  case round =>
  obtain ⟨rfl, rfl⟩ := hrel
  go_wp2
  go_end0
  exact ⟨rfl, rfl⟩
theorem updq_nil (l : Nat) (W : World) : Calls Try.prog 44 #[.slice none 0 0, .int .i64 0, .int .i64 0, .int .i64 l] W fun e w' => e = .returned (.tuple #[]) ∧ w' = W := by
  have hI := uins_nil W
  go_enter Try.func44, Try.ntmps44
  go_wp2_with fail
  go_loopw [1, 2, 3, 8, 9] (fun s1 s2 s3 s8 s9 W' => s1 = .int .i64 0 ∧ s2 = .int .i64 0 ∧ s3 = .int .i64 l ∧ s8 = .bool true ∧ s9 = .bool true ∧ W' = W) (fun _ _ _ _ _ _ => 0)
  case atStart => exact ⟨rfl, rfl, rfl, rfl, rfl, rfl⟩
  case round =>
  obtain ⟨rfl, rfl, rfl, rfl, rfl, rfl⟩ := hrel
  go_wp2_with fail
  refine hI.mono ?_
  rintro e w1 ⟨rfl, rfl⟩
  go_wp2_with fail
  (try simp only [Exit.inBlock, Exit.then])
  refine bodyPost_ret (results_none rfl _ _ _) rfl ?_
  exact ⟨rfl, rfl⟩
theorem usort_nil (W : World) : Calls Try.prog 41 #[.slice none 0 0] W fun e w' => e = .returned (.tuple #[]) ∧ w' = W := by
  have hL := ulen 0 (by omega) W
  have hP := updq_nil (Sort.bitsLen 0) W
  generalize Sort.bitsLen 0 = l at *
  go_enter Try.func41, Try.ntmps41
  go_wp2_with fail
  refine hL.mono ?_
  rintro e w1 ⟨rfl, rfl⟩
  go_wp2_with fail
  refine hP.mono ?_
  rintro e w2 ⟨rfl, rfl⟩
  go_wp2_with fail
  go_end0
  exact ⟨rfl, rfl⟩
/-- Numbers, rising. -/
def risL (L : List Int) : List Int := L.mergeSort fun x y => decide (x ≤ y)
theorem risL_of {L ss : List Int} (h : ss.Perm L) : (Sort.sort Sort.ltInt ss.toArray).toList = risL L := by
  rw [Sort.sortInt ss]
  unfold risL
  have tr : ∀ a b c : Int, decide (a ≤ b) = true → decide (b ≤ c) = true → decide (a ≤ c) = true := fun a b c h1 h2 => by simp only [decide_eq_true_eq] at *; omega
  have tot : ∀ a b : Int, (decide (a ≤ b) || decide (b ≤ a)) = true := fun a b => by simp only [Bool.or_eq_true, decide_eq_true_eq]; omega
  refine List.Perm.eq_of_pairwise (le := fun a b => decide (a ≤ b) = true) (fun a b _ _ h1 h2 => ?_) (List.pairwise_mergeSort tr tot _) (List.pairwise_mergeSort tr tot _) (((List.mergeSort_perm ss _).trans h).trans (List.mergeSort_perm L _).symm)
  simp only [decide_eq_true_eq] at h1 h2
  omega
theorem Ra.of_row {W : World} {g : Nat} {cur : Array Value} {ss : List Int} (hb : W.heap[g]? = some (.cells cur 25 (0, 0))) (ht : cur.toList.take ss.length = ss.map (Value.int .u64)) : Ra W g ss.toArray := by
  refine ⟨cur, hb, fun i hi => ?_⟩
  have hi' : i < ss.length := by simpa using hi
  have h1 : (cur.toList.take ss.length)[i]? = (ss.map (Value.int .u64))[i]? := by rw [ht]
  rw [List.getElem?_take_of_lt hi', Array.getElem?_toList] at h1
  rw [h1]
  simp [hi']
theorem Ra.to_row {W : World} {g : Nat} {cur : Array Value} {d : Array Int} (h : Ra W g d) (hb : W.heap[g]? = some (.cells cur 25 (0, 0))) : cur.toList.take d.size = d.toList.map (Value.int .u64) := by
  obtain ⟨cur', h1, h2⟩ := h
  rw [hb] at h1
  cases h1
  apply List.ext_getElem?
  intro j
  by_cases hj : j < d.size
  · rw [List.getElem?_take_of_lt hj, Array.getElem?_toList, h2 j hj]
    simp [hj]
  · rw [List.getElem?_take_eq_none (by omega), List.getElem?_eq_none (by simp; omega)]
set_option maxHeartbeats 2000000 in
theorem ucoll (Bm b : Nat) (L : List Int) (hlen : L.length ≤ 100000) (w : World) (hBm : Bm < w.heap.size) (hm : w.cell? ⟨Bm, 0, none⟩ = some (.map (some b))) (hS : KmAt w b L) :
    Calls Try.prog 40 #[.func (.func 42) #[] #[.pointer (some ⟨Bm, 0, none⟩)]] w fun e W' => ∃ (v : Value) (ss : List Int), e = .returned v ∧ Hid (ss.Perm L ∧ W'.ownsRow w.heap.size 25 1 v ss.length (ss.map (Value.int .u64)) ∧ (v = .slice none 0 0 ↔ ss = []) ∧ Below w.heap.size w W') := by
  have cS := (callsIn_wide (n := 6)).1 (uappseq Fence.wide 6 trivial trivial rfl (by omega) Bm b L hlen w hBm hm hS)
  clear hm hS
  go_enter Try.func40, Try.ntmps40
  go_wp2_with fail
  refine cS.mono ?_
  rintro e w' ⟨v, ss, rfl, h1, h2, h3, h4⟩
  have H := hid (And.intro h1 (And.intro h2 (And.intro h3 h4)))
  clear cS h1 h2 h3 h4
  go_wp2
  go_ret
  exact ⟨v, ss, rfl, H⟩
set_option maxHeartbeats 2000000 in
/-- slices.Sorted(maps.Keys(m)): capacities: an append never doubles beyond what the law says. -/
theorem usorted (Bm b : Nat) (L : List Int) (hlen : L.length ≤ 1000) (w : World) (hBm : Bm < w.heap.size) (hm : w.cell? ⟨Bm, 0, none⟩ = some (.map (some b))) (hS : KmAt w b L) :
    Calls Try.prog 38 #[.func (.func 42) #[] #[.pointer (some ⟨Bm, 0, none⟩)]] w fun e W' => ∃ v : Value, e = .returned v ∧ Hid (W'.ownsRow w.heap.size 25 1 v L.length ((risL L).map (Value.int .u64)) ∧ Below w.heap.size w W') := by
  have cC := ucoll Bm b L (by omega) w hBm hm hS
  clear hm hS
  go_enter Try.func38, Try.ntmps38
  go_wp2_with fail
  refine cC.mono ?_
  rintro e w1 ⟨v, ss, rfl, HC⟩
  obtain ⟨hp, hrow, hnil, hb⟩ := HC.out
  clear cC HC
  rcases id hrow.2 with ⟨hv, h0⟩ | ⟨g, cap, cur, hv, hB, hg, h1, h2, h3, h4⟩
  · subst hv
    obtain rfl : ss = [] := hnil.1 rfl
    obtain rfl : L = [] := by simpa using hp.symm.eq_nil
    have hI := usort_nil w1
    have HB := hid hb
    clear hrow hb hp hnil
    go_wp2_with fail
    refine hI.mono ?_
    rintro e w2 ⟨rfl, rfl⟩
    go_wp2_with fail
    go_ret
    exact ⟨.slice none 0 0, rfl, by simpa [risL] using World.ownsRow_nil w2 w.heap.size 25 1, HB.out⟩
  · subst hv
    have HL := hid hp.length_eq
    have hS0 : So w1 g ss.length ss.toArray w1 := by
      have := So.start (Ra.of_row hg (by simpa using h4))
      simpa using this
    have hI := usort hS0 h1 (by have := HL.out; omega)
    have HX : Hid (∀ w2, So w1 g ss.length (Sort.sort Sort.ltInt ss.toArray) w2 → w2.ownsRow w.heap.size 25 1 (.slice (some ⟨g, 0, none⟩) ss.length cap) L.length ((risL L).map (Value.int .u64)) ∧ Below w.heap.size w w2) := by
      intro w2 h
      have hl := HL.out
      have hsz : (Sort.sort Sort.ltInt ss.toArray).size = ss.length := h.1
      obtain ⟨cur2, hg2, _⟩ := id h.2.1
      have ht := h.2.1.to_row hg2
      rw [risL_of hp, hsz] at ht
      refine ⟨⟨by rw [List.length_map, ← risL_of hp, Array.length_toList, hsz]; omega, .inr ⟨g, cap, cur2, by rw [hl], hB, hg2, by omega, h2, by rw [h.2.2.2 cur2 cur hg2 hg]; exact h3, by rw [Nat.mul_one, ← hl]; exact ht⟩⟩, hb.trans (h.2.2.1.to (fun x hx => by rw [show x = g from hx]; exact hB) hb.size)⟩
    clear hrow hb hp hnil hS0 hg h3 h4 HL
    go_wp2_with fail
    refine hI.mono ?_
    rintro e w2 ⟨rfl, H2⟩
    clear hI
    go_wp2_with fail
    go_ret
    exact ⟨.slice (some ⟨g, 0, none⟩) ss.length cap, rfl, HX.out _ H2.out⟩
end Go.Proofs.Ytlhhkgjolilpiaa
