/-
  The texts EnKeys, EnAtt, EnRm of this proof.
-/
import Derived.Test.YtjgggialnegddaaGreatPq11
import Derived.Test.YtjgggialnegddaaGreatPq49
import Derived.RangeFuncNested
import Derived.RangeFuncBound
import Derived.RangeFuncCalls
import Derived.RangeFuncLeaves
import Derived.RangeFuncOne
import Derived.Shelf.AbstractIn
import Derived.Sort.MapsRangeIn
import Derived.Sort.KeysCollected
import Derived.WalkKit
import Derived.OwnWalkIn
import Derived.TacticsInMore
import Derived.LoopNIn
import Derived.LoopIn
import Derived.RegionIn
import Derived.Maps.AppendAt
import Derived.Test.YtjgggialnegddaaGreatPq41
import Derived.Test.YtjgggialnegddaaGreatPq42
import Derived.Test.YtjgggialnegddaaGreatPq27
set_option linter.unusedVariables false
set_option maxRecDepth 1000000
namespace Go.Proofs.YtjgggialnegddaaGreat
open Go.RowKit Go.Maps Go.Shelf
theorem akey_inv {key : Value} {kl : Lit} (h : keyOf Tryz.prog 22 key = some kl) : ∃ x : Int, key = .int .u64 x ∧ kl = .int .u64 x ∧ isU x := by
 cases key <;> simp [keyOf, Tryz.underlying22, mapKey] at h
 rename_i q a
 obtain ⟨⟨rfl, hw⟩, rfl⟩ := h
 refine ⟨a, rfl, rfl, ?_⟩
 have h1 : IntKind.u64.min = 0 := by decide
 have h2 : IntKind.u64.max = 18446744073709551615 := by decide
 simp [Lit.wf] at hw
 rw [h1, h2] at hw
 exact hw
def KmAt (W : World) (B : Nat) (L : List Int) : Prop :=
 ∃ D : DataW Unit, W.ownsMap Tryz.prog 22 Rp B L.length D ∧ (∀ x, isU x → Maps.has D (.int .u64 x) = decide (x ∈ L)) ∧ Maps.size D = L.length ∧ L.Nodup ∧ ∀ x ∈ L, isU x
theorem KmAt.lt {W : World} {B : Nat} {L : List Int} (h : KmAt W B L) : B < W.heap.size := by obtain ⟨D, h1, _⟩ := h; exact h1.lt
theorem KmAt.same {W W' : World} {B : Nat} {L : List Int} (h : KmAt W B L) (hb : W'.heap[B]? = W.heap[B]?) : KmAt W' B L := by
 obtain ⟨D, ⟨es, clock, h1, h2⟩, h3⟩ := h
 exact ⟨D, ⟨es, clock, hb.trans h1, h2⟩, h3⟩
theorem KmAt.below {W W' : World} {B : Nat} {L : List Int} (h : KmAt W B L) (hb : Below W.heap.size W W') : KmAt W' B L := h.same (hb.block _ h.lt)
def ClU (D0 : DataW Unit) (left : Lit → Bool) (ss : List Int) : Prop := ss.Nodup ∧ (∀ x ∈ ss, isU x) ∧ ∀ x, isU x → (x ∈ ss ↔ (has D0 (.int .u64 x) = true ∧ left (.int .u64 x) = false))
theorem ClU.start (D0 : DataW Unit) : ClU D0 (has D0) [] := ⟨List.nodup_nil, by simp, fun x _ => by cases has D0 (.int .u64 x) <;> simp⟩
theorem ClU.step {D0 : DataW Unit} {left : Lit → Bool} {ss : List Int} (h : ClU D0 left ss) {x : Int} {y : DataW Unit} (hx : isU x) (hlk : left (.int .u64 x) = true) (hat : ∀ zd, D0.atKey (.int .u64 x) zd = y) : ClU D0 (fun z => left z && !z.sameKey (.int .u64 x)) (ss ++ [x]) := by
 have hhas : has D0 (.int .u64 x) = true := has_true_of_atKey hat
 have hnew : x ∉ ss := fun hi => by have := ((h.2.2 x hx).1 hi).2; rw [hlk] at this; cases this
 refine ⟨List.nodup_append.2 ⟨h.1, by simp, fun a ha b hb => by simp at hb; subst hb; exact fun e => hnew (e ▸ ha)⟩, fun y hy => ?_, fun y hy => ?_⟩
 ·rcases List.mem_append.1 hy with h' | h'
  ·exact h.2.1 y h'
  ·simp at h'; exact h' ▸ hx
 ·by_cases e : y = x
  ·subst e; simp [hhas, Lit.sameKey]
  ·simp [h.2.2 y hy, e, Lit.sameKey]
set_option maxHeartbeats 2000000 in
theorem ukeys1 (F : Fence) (n : Nat) (h10 : F.fn 69) (hro : F.round = none) (hn : 1 ≤ n) (l Bm b : Nat) (L : List Int) (J Jx : List Int → World → Prop)
  (hY : ∀ pre x W, J pre W → pre.length < L.length → YieldAt F (n - 1) Tryz.prog l #[.int .u64 x] W fun e W' =>
   (e = .returned (.bool true) ∧ J (pre ++ [x]) W' ∧ KeepsWalks W W') ∨ (e = .returned (.bool false) ∧ Jx (pre ++ [x]) W'))
  (W : World) (hJ : AbidesFrom W.heap.size J) (hm : W.cell? ⟨Bm, 0, none⟩ = some (.map (some b))) (hS : KmAt W b L) (h0 : J [] W) :
  CallsIn F n Tryz.prog 69 #[.func (.yield l) #[] #[], .pointer (some ⟨Bm, 0, none⟩)] W fun e W' => (∃ v, e = .returned v) ∧
   ((∃ ss : List Int, ss.Perm L ∧ J ss W') ∨ (∃ pre : List Int, True ∧ Jx pre W')) := by
 obtain ⟨D0, hown, hhas, hsz, hnd, hU⟩ := hS
 refine callsIn_of_wp Tryz.func69 rfl h10 ?_ hro
 simp only [Tryz.ntmps69, List.size_toArray, List.length_cons, List.length_nil, Nat.reduceAdd, Nat.reduceSub, Array.replicate_succ, Array.replicate_zero, List.push_toArray, List.append_toArray, List.nil_append, List.cons_append]
 gi_wp2_with (first
  | (gi_at_range; refine wpListIn_range_own _ rfl _ 71 rfl 22 88 alaw Tryz.underlying71 _ b L.length _ rfl hown ?_; intro w0 hrg0 hg0 hs0)
  | gi_in)
 go_frame
 gi_loopw [3] (fun _ wr => ∃ (left : Lit → Bool) (cnt : Nat) (ss : List Int), wr.ranges Tryz.prog 22 Rp b W.heap.size L.length D0 left cnt ∧ ss.length + cnt ≤ L.length ∧ ClU D0 left ss ∧ J ss wr)
  (fun _ wr => wr.rangeLeft b W.heap.size)
 case atStart =>
  exact ⟨_, _, [], hrg0, by simp [hsz], ClU.start D0, hJ [] W w0 none h0 hg0 (fun r e => by cases e)⟩
 case round =>
  obtain ⟨left, cnt, ss, hrg, hcs, hC, hJs⟩ := hrel
  gi_wp2_with (first
   | (gi_at_next; refine wpListIn_next_ranges _ rfl _ rfl 22 alaw Rp (Value.int .u64) id (fun key kl hk => by obtain ⟨x, hx, _⟩ := akey_inv hk; exact ⟨x, hx⟩) (fun v _ _ => ⟨v, rfl⟩) b W.heap.size L.length _ _ _ rfl hrg ?_ ?_)
   | gi_in)
  ·intro hc0 hl0
   gi_wp2
   go_end0
   refine ⟨⟨_, rfl⟩, .inl ⟨ss, (List.perm_ext_iff_of_nodup hC.1 hnd).2 fun x => ?_, hJs⟩⟩
   constructor
   ·intro hx
    have := ((hC.2.2 x (hC.2.1 x hx)).1 hx).1
    rw [hhas x (hC.2.1 x hx)] at this
    simpa using this
   ·intro hx
    rw [hC.2.2 x (hU x hx), hl0, hhas x (hU x hx)]
    simpa using hx
  ·intro x c kl yd yp w2 cnt2 hkey hlk hv hat hrg2 hlt hg2 hs2 hen
   obtain ⟨x', ex, rfl, hxU⟩ := akey_inv hkey
   obtain rfl : x = x' := by simpa using ex
   have hJ2 : J ss w2 := hJ ss wr w2 (some W.heap.size) hJs hg2 (fun r e => by cases e; exact ⟨Nat.le_refl _, hrg.iter_walk⟩)
   obtain ⟨fn, tmps, assign, body, hy, hR⟩ := hY ss x w2 hJ2 (by omega)
   clear hs2
   gi_wp2
   refine hR.mono ?_
   have hC2 := hC.step hxU hlk hat
   rintro e W3 (⟨rfl, hJ3, hk3⟩ | ⟨rfl, hJx3⟩)
   ·gi_wp2
    have hrg3 := hrg2.of_walks hk3
    go_roundw
    case rel => exact ⟨_, cnt2, ss ++ [x], hrg3, by simp; omega, hC2, hJ3⟩
    case measure => rw [hrg3.left_eq, hrg.left_eq]; exact hlt
   ·gi_wp2
    refine bodyPost_ret (results_none rfl _ _ _) rfl ?_
    exact ⟨⟨_, rfl⟩, .inr ⟨ss ++ [x], trivial, hJx3⟩⟩
theorem ukeys_stops (F : Fence) (n : Nat) (h10 : F.fn 69) (hro : F.round = none) (hn : 1 ≤ n) (Bm b : Nat) (L : List Int) (w : World) (hBm : Bm < w.heap.size) (hm : w.cell? ⟨Bm, 0, none⟩ = some (.map (some b))) (hS : KmAt w b L) :
  SeqStops F n Tryz.prog 69 #[.pointer (some ⟨Bm, 0, none⟩)] (Value.int .u64) (fun ss => ss.Perm L) (fun _ => True) L.length w := fun l J Jx W hW hJ _ hY h0 =>
 ukeys1 F n h10 hro hn l Bm b L J Jx hY W hJ ((hW.cell (p := ⟨Bm, 0, none⟩) hBm).trans hm) (hS.below hW) h0
theorem Tryz.infoU : (Tryz.prog.info? 22).map (fun i => (i.zero, i.size, i.bytes)) = some (some (.int .u64 0), 1, 8) := by kernel_rfl
set_option maxHeartbeats 4000000 in
theorem uappseq (F : Fence) (n : Nat) (h3 : F.fn 94) (h5 : F.fn 69) (hro : F.round = none) (hn : 3 ≤ n) (Bm b : Nat) (L : List Int) (hlen : L.length ≤ 100000) (w : World) (hBm : Bm < w.heap.size) (hm : w.cell? ⟨Bm, 0, none⟩ = some (.map (some b))) (hS : KmAt w b L) :
  CallsIn F n Tryz.prog 94 #[.slice none 0 0, .func (.func 69) #[] #[.pointer (some ⟨Bm, 0, none⟩)]] w fun e W' => ∃ (v : Value) (ss : List Int), e = .returned v ∧ ss.Perm L ∧ W'.ownsRow w.heap.size 22 1 v ss.length (ss.map (Value.int .u64)) ∧ (v = .slice none 0 0 ↔ ss = []) ∧ Below w.heap.size w W' := by
 have h1 : 1 ≤ n := by omega
 have hml : (100000 : Nat) ≤ maxLen := by decide
 obtain ⟨i0, hi, hz0, hz1, hz2⟩ := Go.info_parts Tryz.infoU
 refine callsIn_of_wp_marks Tryz.func94 rfl h3 ?_ hro
 simp only [Tryz.ntmps94, List.size_toArray, List.length_cons, List.length_nil, Nat.reduceAdd, Nat.reduceSub, Array.replicate_succ, Array.replicate_zero, List.push_toArray, List.append_toArray, List.nil_append, List.cons_append]
 gi_wp2
 have bO := Boxed.new w 59 (.slice none 0 0)
 have hB0 : Below w.heap.size w (w.alloc (.cells #[.slice none 0 0] 59)) := (Below.refl _ w).alloc (Nat.le_refl _) _
 refine wpIn_rangeFunc_ownF hro h1 (gf := 69) (lb := #[.pointer (some ⟨Bm, 0, none⟩)]) rfl h5 (enters_of Tryz.func69 (by kernel_rfl) rfl)
  (ukeys_stops F (n - 1) h5 hro (by omega) Bm b L _ (by simp; omega) ((hB0.cell (p := ⟨Bm, 0, none⟩) hBm).trans hm) (hS.below hB0)) walksK_t walksK_b (Below.refl _ _) (fun _ => rfl)
  (fun pre W => (∃ v, Boxed W w.heap.size 59 v ∧ W.ownsRow w.heap.size 22 1 v pre.length (pre.map (Value.int .u64)) ∧ (v = .slice none 0 0 ↔ pre = [])) ∧ Below w.heap.size w W)
  (fun _ _ _ => False)
  (OwnFrom.and (Own.from (holdsRow_own w.heap.size w.heap.size 59 22 1 (fun pre => pre.length) (fun pre => pre.map (Value.int .u64)) (fun pre v => v = .slice none 0 0 ↔ pre = [])) _) (ownFrom_below (Nat.le_refl _) (by simp)))
  (fun _ _ _ _ _ hs _ _ => hs)
  ⟨⟨_, bO, World.ownsRow_nil _ _ _ _, by simp⟩, hB0⟩
  (fun x => { tmps := #[.slice none 0 0, .func (.func 69) #[] #[.pointer (some ⟨Bm, 0, none⟩)], .pointer (some ⟨w.heap.size, 0, none⟩), undef, .slice none 0 0, .int .u64 x, .func (.func 69) #[] #[.pointer (some ⟨Bm, 0, none⟩)], .int .u64 x, undef, undef, undef, undef, undef], defers := [] }) ?assign ?body ?done ?stop
 case assign =>
  intro l x W K hK
  gi_wp2_with (rw [Oper.semAt_eq _ _ _ (fun c h => by cases h)]; go_simp; try go_bits)
  exact hK
 case body =>
  rintro l pre x W ⟨⟨v, hv, hrow, hnil⟩, hB⟩ hlt
  have hc := hv.cell
  gi_wp2_with (first | (gi_at_builtin; refine wpListIn_append_own _ rfl _ _ 59 rfl w.heap.size 22 i0 (.int .u64 0) 1 8 Tryz.underlying59 hi hz0 hz1 hz2 rfl (by decide) _ _ _ rfl (hrow.alloc _) ⟨W.heap.size, 0, none⟩ 1 1 [.int .u64 x] rfl rfl (cell_one_new _ _ _) (by simp [Value.oneCell']) (by omega) (by omega) (by have := hB.size; simp; omega) ?_; intro v' w1 hown' hgrow _; obtain ⟨g', cap', rfl⟩ := ownsRow_succ hown'; obtain ⟨hv1, hv2, hr2, hk2, hb2⟩ := hv.appended (by decide) hrow hB.size (Nat.le_refl _) hown' hgrow; have hc1 := hv1.cell; have hf1 := hv1.frozen) | (rw [Oper.semAt_eq _ _ _ (fun c h => by cases h)]; go_simp; try go_bits))
  exact ⟨hk2, hk2.walks, ⟨⟨_, hv2, by simpa using hr2, by simp⟩, hB.trans hb2⟩⟩
 case done =>
  rintro D ys W hD hperm ⟨⟨v, hv, hrow, hnil⟩, hB⟩ hK
  have hc := hv.cell
  gi_wp2
  refine ⟨by simp, .inl ⟨_, _, rfl, run_takeDeferred hK, ?_⟩⟩
  exact ⟨_, results_tmp rfl _ _ _, v, ys, rfl, hperm, ownsRow_putObj hrow _ hK rfl, hnil, hB.trans (belowK_b (w := w) (Nat.le_refl _) W D _ _ (by simp at hD; omega) hK rfl rfl)⟩
 case stop =>
  rintro D c pre W _ _ h _
  exact h.elim
theorem ulen (n : Nat) (hn : n ≤ 100000) (W : World) : Calls Tryz.prog 96 #[.int .u64 n] W fun e w' => e = .returned (.int .i64 (Sort.bitsLen n : Nat)) ∧ w' = W := by
 have h := Any.bits_Len Tryz.bitsLen (n : Int) W (by omega) (by omega)
 rw [Int.toNat_natCast, bitLen_eq _ (by omega)] at h
 exact h
theorem usort {b N cap : Nat} {d : Array Int} {w W : World} (h : So w b N d W) (hc : N ≤ cap) (hm : N ≤ 100000) :
  Calls Tryz.prog 68 #[.slice (some ⟨b, 0, none⟩) N cap] W fun e w' => e = .returned (.tuple #[]) ∧ Hid (So w b N (Sort.sort Sort.ltInt d) w') := by
 obtain ⟨l, Hl⟩ : ∃ l, Hid (Sort.bitsLen N = l) := ⟨_, rfl⟩
 have hl : l ≤ 1000 := by
  rw [← Hl.out]
  exact Nat.le_trans ((Sort.bitsLen_le_iff N 64).2 (by omega)) (by omega)
 have hL := fun W : World => ulen N (by omega) W
 rw [Hl.out] at hL
 have HP := hid fun (W : World) (h : So w b N d W) => updq hc hm N 0 N l d W (by omega) (by omega) (Nat.le_refl _) hl h
 have HE : Hid (Sort.pdq Sort.ltInt d 0 N l true true = Sort.sort Sort.ltInt d) := by
  unfold Hid Sort.sort
  rw [h.1, Hl.out]
 have hwu : IntKind.u64.wrap (N : Int) = (N : Int) := by rw [IntKind.wrap_u64]; omega
 have HS := hid h
 clear h
 go_enter Tryz.func68, Tryz.ntmps68
 go_wp2_with fail
 refine (hL _).mono ?_
 rintro e w1 ⟨rfl, rfl⟩
 have hp := HP.out _ HS.out
 clear HP HS hL
 go_wp2_with fail
 refine hp.mono ?_
 rintro e w2 ⟨rfl, H2⟩
 clear hp
 rw [HE.out] at H2
 go_wp2_with fail
 go_end0
 exact ⟨rfl, H2⟩
theorem uins_nil (W : World) : Calls Tryz.prog 119 #[.slice none 0 0, .int .i64 0, .int .i64 0] W fun e w' => e = .returned (.tuple #[]) ∧ w' = W := by
 go_enter Tryz.func119, Tryz.ntmps119
 go_wp2_with fail
 go_loopw [6] (fun i W' => i = .int .i64 1 ∧ W' = W) (fun _ _ => 0)
 case atStart => exact ⟨rfl, rfl⟩
 case round =>
 obtain ⟨rfl, rfl⟩ := hrel
 go_wp2
 go_end0
 exact ⟨rfl, rfl⟩
theorem updq_nil (l : Nat) (W : World) : Calls Tryz.prog 95 #[.slice none 0 0, .int .i64 0, .int .i64 0, .int .i64 l] W fun e w' => e = .returned (.tuple #[]) ∧ w' = W := by
 have hI := uins_nil W
 go_enter Tryz.func95, Tryz.ntmps95
 go_wp2_with fail
 go_loopw [1, 2, 3, 8, 9] (fun s1 s2 s3 s8 s9 W' => s1 = .int .i64 0 ∧ s2 = .int .i64 0 ∧ s3 = .int .i64 l ∧ s8 = .bool true ∧ s9 = .bool true ∧ W' = W) (fun _ _ _ _ _ _ => 0)
 case atStart => exact ⟨rfl, rfl, rfl, rfl, rfl, rfl⟩
 case round =>
 obtain ⟨rfl, rfl, rfl, rfl, rfl, rfl⟩ := hrel
 go_wp2_with fail
 refine hI.mono ?_
 rintro e w1 ⟨rfl, rfl⟩
 go_wp2_with fail
 (try simp only [Exit.inBlock, Exit.then])
 refine bodyPost_ret (results_none rfl _ _ _) rfl ?_
 exact ⟨rfl, rfl⟩
theorem usort_nil (W : World) : Calls Tryz.prog 68 #[.slice none 0 0] W fun e w' => e = .returned (.tuple #[]) ∧ w' = W := by
 have hL := ulen 0 (by omega) W
 have hP := updq_nil (Sort.bitsLen 0) W
 generalize Sort.bitsLen 0 = l at *
 go_enter Tryz.func68, Tryz.ntmps68
 go_wp2_with fail
 refine hL.mono ?_
 rintro e w1 ⟨rfl, rfl⟩
 go_wp2_with fail
 refine hP.mono ?_
 rintro e w2 ⟨rfl, rfl⟩
 go_wp2_with fail
 go_end0
 exact ⟨rfl, rfl⟩
def risL (L : List Int) : List Int := L.mergeSort fun x y => decide (x ≤ y)
theorem risL_of {L ss : List Int} (h : ss.Perm L) : (Sort.sort Sort.ltInt ss.toArray).toList = risL L := by
 rw [Sort.sortInt ss]
 unfold risL
 have tr : ∀ a b c : Int, decide (a ≤ b) = true → decide (b ≤ c) = true → decide (a ≤ c) = true := fun a b c h1 h2 => by simp only [decide_eq_true_eq] at *; omega
 have tot : ∀ a b : Int, (decide (a ≤ b) || decide (b ≤ a)) = true := fun a b => by simp only [Bool.or_eq_true, decide_eq_true_eq]; omega
 refine List.Perm.eq_of_pairwise (le := fun a b => decide (a ≤ b) = true) (fun a b _ _ h1 h2 => ?_) (List.pairwise_mergeSort tr tot _) (List.pairwise_mergeSort tr tot _) (((List.mergeSort_perm ss _).trans h).trans (List.mergeSort_perm L _).symm)
 simp only [decide_eq_true_eq] at h1 h2
 omega
theorem Ra.of_row {W : World} {g : Nat} {cur : Array Value} {ss : List Int} (hb : W.heap[g]? = some (.cells cur 22 (0, 0))) (ht : cur.toList.take ss.length = ss.map (Value.int .u64)) : Ra W g ss.toArray := by
 refine ⟨cur, hb, fun i hi => ?_⟩
 have hi' : i < ss.length := by simpa using hi
 have h1 : (cur.toList.take ss.length)[i]? = (ss.map (Value.int .u64))[i]? := by rw [ht]
 rw [List.getElem?_take_of_lt hi', Array.getElem?_toList] at h1
 rw [h1]
 simp [hi']
theorem Ra.to_row {W : World} {g : Nat} {cur : Array Value} {d : Array Int} (h : Ra W g d) (hb : W.heap[g]? = some (.cells cur 22 (0, 0))) : cur.toList.take d.size = d.toList.map (Value.int .u64) := by
 obtain ⟨cur', h1, h2⟩ := h
 rw [hb] at h1
 cases h1
 apply List.ext_getElem?
 intro j
 by_cases hj : j < d.size
 ·rw [List.getElem?_take_of_lt hj, Array.getElem?_toList, h2 j hj]
  simp [hj]
 ·rw [List.getElem?_take_eq_none (by omega), List.getElem?_eq_none (by simp; omega)]
set_option maxHeartbeats 2000000 in
theorem ucoll (Bm b : Nat) (L : List Int) (hlen : L.length ≤ 100000) (w : World) (hBm : Bm < w.heap.size) (hm : w.cell? ⟨Bm, 0, none⟩ = some (.map (some b))) (hS : KmAt w b L) :
  Calls Tryz.prog 67 #[.func (.func 69) #[] #[.pointer (some ⟨Bm, 0, none⟩)]] w fun e W' => ∃ (v : Value) (ss : List Int), e = .returned v ∧ Hid (ss.Perm L ∧ W'.ownsRow w.heap.size 22 1 v ss.length (ss.map (Value.int .u64)) ∧ (v = .slice none 0 0 ↔ ss = []) ∧ Below w.heap.size w W') := by
 have cS := (callsIn_wide (n := 6)).1 (uappseq Fence.wide 6 trivial trivial rfl (by omega) Bm b L hlen w hBm hm hS)
 clear hm hS
 go_enter Tryz.func67, Tryz.ntmps67
 go_wp2_with fail
 refine cS.mono ?_
 rintro e w' ⟨v, ss, rfl, h1, h2, h3, h4⟩
 have H := hid (And.intro h1 (And.intro h2 (And.intro h3 h4)))
 clear cS h1 h2 h3 h4
 go_wp2
 go_ret
 exact ⟨v, ss, rfl, H⟩
set_option maxHeartbeats 2000000 in
theorem usorted (Bm b : Nat) (L : List Int) (hlen : L.length ≤ 1000) (w : World) (hBm : Bm < w.heap.size) (hm : w.cell? ⟨Bm, 0, none⟩ = some (.map (some b))) (hS : KmAt w b L) :
  Calls Tryz.prog 47 #[.func (.func 69) #[] #[.pointer (some ⟨Bm, 0, none⟩)]] w fun e W' => ∃ v : Value, e = .returned v ∧ Hid (W'.ownsRow w.heap.size 22 1 v L.length ((risL L).map (Value.int .u64)) ∧ Below w.heap.size w W') := by
 have cC := ucoll Bm b L (by omega) w hBm hm hS
 clear hm hS
 go_enter Tryz.func47, Tryz.ntmps47
 go_wp2_with fail
 refine cC.mono ?_
 rintro e w1 ⟨v, ss, rfl, HC⟩
 obtain ⟨hp, hrow, hnil, hb⟩ := HC.out
 clear cC HC
 rcases id hrow.2 with ⟨hv, h0⟩ | ⟨g, cap, cur, hv, hB, hg, h1, h2, h3, h4⟩
 ·subst hv
  obtain rfl : ss = [] := hnil.1 rfl
  obtain rfl : L = [] := by simpa using hp.symm.eq_nil
  have hI := usort_nil w1
  have HB := hid hb
  clear hrow hb hp hnil
  go_wp2_with fail
  refine hI.mono ?_
  rintro e w2 ⟨rfl, rfl⟩
  go_wp2_with fail
  go_ret
  exact ⟨.slice none 0 0, rfl, by simpa [risL] using World.ownsRow_nil w2 w.heap.size 22 1, HB.out⟩
 ·subst hv
  have HL := hid hp.length_eq
  have hS0 : So w1 g ss.length ss.toArray w1 := by
   have := So.start (Ra.of_row hg (by simpa using h4))
   simpa using this
  have hI := usort hS0 h1 (by have := HL.out; omega)
  have HX : Hid (∀ w2, So w1 g ss.length (Sort.sort Sort.ltInt ss.toArray) w2 → w2.ownsRow w.heap.size 22 1 (.slice (some ⟨g, 0, none⟩) ss.length cap) L.length ((risL L).map (Value.int .u64)) ∧ Below w.heap.size w w2) := by
   intro w2 h
   have hl := HL.out
   have hsz : (Sort.sort Sort.ltInt ss.toArray).size = ss.length := h.1
   obtain ⟨cur2, hg2, _⟩ := id h.2.1
   have ht := h.2.1.to_row hg2
   rw [risL_of hp, hsz] at ht
   refine ⟨⟨by rw [List.length_map, ← risL_of hp, Array.length_toList, hsz]; omega, .inr ⟨g, cap, cur2, by rw [hl], hB, hg2, by omega, h2, by rw [h.2.2.2 cur2 cur hg2 hg]; exact h3, by rw [Nat.mul_one, ← hl]; exact ht⟩⟩, hb.trans (h.2.2.1.to (fun x hx => by rw [show x = g from hx]; exact hB) hb.size)⟩
  clear hrow hb hp hnil hS0 hg h3 h4 HL
  go_wp2_with fail
  refine hI.mono ?_
  rintro e w2 ⟨rfl, H2⟩
  clear hI
  go_wp2_with fail
  go_ret
  exact ⟨.slice (some ⟨g, 0, none⟩) ss.length cap, rfl, HX.out _ H2.out⟩
end Go.Proofs.YtjgggialnegddaaGreat
namespace Go.Proofs.YtjgggialnegddaaGreat
open Go.RowKit Go.Maps
theorem risL_mem {L : List Int} {x : Int} : x ∈ risL L ↔ x ∈ L := by unfold risL; exact List.mem_mergeSort
section
variable {w W W' : World} {B mb : Nat} {pm pc : Option Addr} {qv bv : Value} {nd : Int → Nat} {S : Rs} {bs qs : List At} {Fc It : Nat → Prop}
theorem EnI.keys (h : EnI W B mb pm pc qv bv nd S bs qs Fc It) : KmAt W mb (S.L.map (·.id)) := by
 obtain ⟨D, h1, h2, h3⟩ := h.map
 refine ⟨D, by rw [List.length_map]; exact h1, fun x hx => ?_, by rw [List.length_map]; exact h3, h.ok.one, fun x hx => ?_⟩
 ·rw [(h2 x hx).2]
  unfold mapF
  by_cases e : hasB S.L x = true
  ·rw [if_pos e, decide_eq_true (hasB_iff.1 e)]; rfl
  ·rw [if_neg e, decide_eq_false fun h' => e (hasB_iff.2 h')]; rfl
 ·obtain ⟨a, ha, rfl⟩ := List.mem_map.1 hx
  exact (h.ok.ok a ha).1
set_option maxHeartbeats 2000000 in
theorem eatt_any (h : EnI W B mb pm pc qv bv nd S bs qs Fc It) (hl : S.L.length ≤ 100) : Calls Tryz.prog 25 #[.pointer (some ⟨B, 0, none⟩)] W fun e w' => ∃ v : Value, e = .returned v ∧ Hid (w'.ownsRow W.heap.size 22 1 v S.L.length ((risL (S.L.map (·.id))).map (Value.int .u64)) ∧ Below W.heap.size W w') := by
 have hM := emade_yes h
 have c7 := h.cells.2.2.2.2.2.2.2.1
 have hb : Below W.heap.size W (W.alloc (.cells #[.map (some mb)] 71)) := (Below.refl _ _).alloc (Nat.le_refl _) _
 have hS := usorted W.heap.size mb (S.L.map (·.id)) (by rw [List.length_map]; omega) (W.alloc (.cells #[.map (some mb)] 71)) (by simp) (by rw [cell_of_row _ _ _ _ _ _ (heap_alloc_new W _)]; rfl) (h.keys.below hb)
 rw [List.length_map] at hS
 have HF : Hid (∀ (u : Value) (w' : World), w'.ownsRow (W.alloc (.cells #[.map (some mb)] 71)).heap.size 22 1 u S.L.length ((risL (S.L.map (·.id))).map (Value.int .u64)) ∧ Below (W.alloc (.cells #[.map (some mb)] 71)).heap.size (W.alloc (.cells #[.map (some mb)] 71)) w' → w'.ownsRow W.heap.size 22 1 u S.L.length ((risL (S.L.map (·.id))).map (Value.int .u64)) ∧ Below W.heap.size W w') := by
  rintro u w' ⟨h1, h2⟩
  refine ⟨⟨h1.1, h1.2.imp id ?_⟩, hb.trans (h2.mono hb.size)⟩
  rintro ⟨g, cap, cur, q1, q2, q3⟩
  exact ⟨g, cap, cur, q1, by simp at q2; omega, q3⟩
 clear h hb
 generalize risL (S.L.map (·.id)) = R at *
 generalize S.L.length = n at *
 go_enter Tryz.func25, Tryz.ntmps25
 go_wp2_with fail
 refine hM.mono ?_
 rintro e w' ⟨rfl, rfl⟩
 clear hM
 go_wp2_with (first | (go_at_call 47; refine hS.mono ?_; rintro r w2 ⟨u, rfl, H2⟩) | go_in)
 go_ret
 exact ⟨u, rfl, HF.out _ _ H2.out⟩
end
theorem setB_few {S : Rs} (h : OkR S) : S.L.length ≤ 80 := by
 have h1 := h.set
 have h2 := h.few
 unfold setB btw at h1
 simp only [Bool.and_eq_true, decide_eq_true_eq] at h1
 omega
theorem en_att {F It : Nat → Prop} {p : Option Addr} {S : Rs} (w : World) (h : EnAt w p S F It) : Calls Tryz.prog 25 #[.pointer p] w fun e w' => ∃ v : Value, e = .returned v ∧ Hid (w'.ownsRow w.heap.size 22 1 v S.L.length ((risL (S.L.map (·.id))).map (Value.int .u64)) ∧ Below w.heap.size w w') := by
 have hl := setB_few h.ok
 obtain ⟨B, mb, pm, pc, qv, bv, nd, bs, qs, Fc, rfl, h1, rfl⟩ := h.rest
 exact eatt_any h1 (by omega)
end Go.Proofs.YtjgggialnegddaaGreat
namespace Go.Proofs.YtjgggialnegddaaGreat
open Go.RowKit Go.Maps
theorem cells_14 {W : World} {g : Nat} {v0 v1 v2 v3 v4 v5 v6 v7 v8 v9 v10 v11 v12 v13 : Value} {T : TypeId} (h : W.heap[g]? = some (.cells #[v0, v1, v2, v3, v4, v5, v6, v7, v8, v9, v10, v11, v12, v13] T (0, 0))) : W.cell? ⟨g, 0, none⟩ = some v0 ∧ W.cell? ⟨g, 1, none⟩ = some v1 ∧ W.cell? ⟨g, 2, none⟩ = some v2 ∧ W.cell? ⟨g, 3, none⟩ = some v3 ∧ W.cell? ⟨g, 4, none⟩ = some v4 ∧ W.cell? ⟨g, 5, none⟩ = some v5 ∧ W.cell? ⟨g, 6, none⟩ = some v6 ∧ W.cell? ⟨g, 7, none⟩ = some v7 ∧ W.cell? ⟨g, 8, none⟩ = some v8 ∧ W.cell? ⟨g, 9, none⟩ = some v9 ∧ W.cell? ⟨g, 10, none⟩ = some v10 ∧ W.cell? ⟨g, 11, none⟩ = some v11 ∧ W.cell? ⟨g, 12, none⟩ = some v12 ∧ W.cell? ⟨g, 13, none⟩ = some v13 := by
 refine ⟨?_, ?_, ?_, ?_, ?_, ?_, ?_, ?_, ?_, ?_, ?_, ?_, ?_, ?_⟩ <;> (rw [cell_of_row _ _ _ _ _ _ h]; rfl)
def Rb15 : Value → Option (DataW Unit × List MemPlace)
 | .bool b => some (.lit (.int .i64 (if b then 1 else 0)), [])
 | _ => none
theorem Rb15_mk (b : Bool) : Rb15 (.bool b) = some (.lit (.int .i64 (if b then 1 else 0)), []) := rfl
theorem Rb15_inv {v : Value} {b : Bool} {ps : List MemPlace} (h : Rb15 v = some (.lit (.int .i64 (if b then 1 else 0)), ps)) : v = .bool b := by
 cases v <;> simp [Rb15] at h
 rename_i c
 obtain ⟨h1, _⟩ := h
 cases b <;> cases c <;> simp at h1 ⊢
theorem bzero (w : World) : (zeroValue 4).run Tryz.prog w = .ok (.bool false) w := by kernel_rfl
def TwAt (W : World) (B n : Nat) (T : Int → Bool) : Prop :=
 ∃ D : DataW Unit, W.ownsMap Tryz.prog 22 Rb15 B n D ∧ ∀ x, isU x → D.atKey (.int .u64 x) (.lit (.int .i64 0)) = .lit (.int .i64 (if T x then 1 else 0))
theorem TwAt.new (w : World) : TwAt (w.alloc (.map #[] 0)) w.heap.size 0 (fun _ => false) := ⟨.map [], World.ownsMap_made _ _ _ _, fun v _ => rfl⟩
section
variable {w W W' : World} {B n : Nat} {T : Int → Bool}
theorem TwAt.lt (h : TwAt W B n T) : B < W.heap.size := by obtain ⟨D, h1, _⟩ := h; exact h1.lt
theorem TwAt.blk (h : TwAt W B n T) : ∃ es clock, W.heap[B]? = some (.map es clock) := by
 obtain ⟨D, ⟨es, clock, h1, h2⟩, h3⟩ := h
 exact ⟨es, clock, h1⟩
theorem TwAt.same (h : TwAt W B n T) (hb : W'.heap[B]? = W.heap[B]?) : TwAt W' B n T := by
 obtain ⟨D, ⟨es, clock, h1, h2⟩, h3⟩ := h
 exact ⟨D, ⟨es, clock, hb.trans h1, h2⟩, h3⟩
theorem TwAt.look (h : TwAt W B n T) {x : Int} (hx : isU x) : (Instr.lookup 66 (.map (some B)) (.int .u64 x) false).run Tryz.prog W = .ok (.bool (T x)) W := by
 obtain ⟨D, h1, h2⟩ := h
 obtain ⟨u, ps, hr, hu⟩ := h1.lookup alaw Tryz.underlying66 (bzero W) (zd := .lit (.int .i64 0)) (zp := []) (Rb15_mk false) (akey hx)
 rw [h2 x hx] at hu
 rw [hr, Rb15_inv hu]
theorem TwAt.store (h : TwAt W B n T) (hn : n ≤ 100000) {x : Int} (hx : isU x) (c : Bool) :
  ∃ W', (Instr.mapUpdate 66 (.map (some B)) (.int .u64 x) (.bool c)).run Tryz.prog W = .ok () W' ∧ TwAt W' B (n + 1) (fun y => if y = x then c else T y) ∧ Fb (at1 B) W W' := by
 obtain ⟨D, h1, h2⟩ := h
 obtain ⟨W', hr, ho, hg⟩ := h1.store alaw Tryz.underlying66 (by unfold maxLen; omega) (akey hx) (Rb15_mk c)
 have hf : Fb (at1 B) W W' := by
  have := hg.grown
  exact ⟨this.os, this.tape, this.output, this.size, fun k hk hn => this.block k hk fun e => hn (by cases e; rfl)⟩
 refine ⟨W', hr, ⟨_, ho, fun u hu => ?_⟩, hf⟩
 by_cases e : u = x
 ·subst e
  rw [atKey_put_same h1.isMap (alaw.key (akey hx))]
  simp
 ·have hne : Lit.int .u64 u ≠ Lit.int .u64 x := fun e2 => e (by cases e2; rfl)
  rw [atKey_put_other hne, h2 u hu]
  simp [e]
end
theorem EnAt.mapT {W W' : World} {p : Option Addr} {S : Rs} {F It : Nat → Prop} {tb : Nat} (h : EnAt W p S F It) (hb : Fb (at1 tb) W W') (hm : ∃ es cl, W.heap[tb]? = some (.map es cl)) (hF : ¬ F tb) : EnAt W' p S F It := by
 obtain ⟨es, cl, hm⟩ := hm
 refine h.keep hb.size (fun k hk => hb.block k (h.old k hk) fun e => hF (by rw [← show k = tb from e]; exact hk)) (fun k hk => hb.block k (h.oldI k hk) fun e => ?_) (KpL.fb hb fun k cur t fz hf hc ho => ?_)
 ·obtain ⟨B, mb, pm, pc, qv, bv, nd, bs, qs, Fc, rfl, h1, rfl⟩ := h.rest
  obtain ⟨⟨cur, fz, hc⟩, _⟩ := h1.itI k hk
  rw [show k = tb from e, hm] at hc
  cases hc
 ·rw [show k = tb from hf, hm] at hc
  cases hc
structure RmB (wA : World) (p : Option Addr) (s : Sg) (t tb c : Nat) (T : Int → Bool) (S : Rs) (F It : Nat → Prop) (W : World) : Prop where
 en : EnAt W p S F It
 set : S.s = s
 tk : S.tk ≤ t
 th : TwAt W tb c T
 tF : ¬ F tb
 lo : ∀ j, F j → wA.heap.size ≤ j
 tlo : wA.heap.size ≤ tb
 bel : Below wA.heap.size wA W
 ok : ∀ x, T x = true → isU x
section
variable {wA W W' : World} {p : Option Addr} {s : Sg} {t tb c : Nat} {T : Int → Bool} {S : Rs} {F It : Nat → Prop}
theorem RmB.below (h : RmB wA p s t tb c T S F It W) (hb : Below W.heap.size W W') : RmB wA p s t tb c T S F It W' :=
 ⟨h.en.below hb, h.set, h.tk, h.th.same (hb.block _ h.th.lt), h.tF, h.lo, h.tlo, h.bel.trans (hb.mono h.bel.size), h.ok⟩
theorem RmB.put (h : RmB wA p s t tb c T S F It W) (hc : c ≤ 100000) {x : Int} (hx : isU x) (b : Bool) :
  ∃ W', (Instr.mapUpdate 66 (.map (some tb)) (.int .u64 x) (.bool b)).run Tryz.prog W = .ok () W' ∧ RmB wA p s t tb (c + 1) (fun y => if y = x then b else T y) S F It W' ∧ Fb (at1 tb) W W' := by
 obtain ⟨W', h1, h2, h3⟩ := h.th.store hc hx b
 refine ⟨W', h1, ⟨h.en.mapT h3 h.th.blk h.tF, h.set, h.tk, h2, h.tF, h.lo, h.tlo, h.bel.trans (h3.to (fun k e => by rw [show k = tb from e]; exact h.tlo) h.bel.size), fun y hy => ?_⟩, h3⟩
 by_cases e : y = x
 ·rw [e]; exact hx
 ·rw [if_neg e] at hy; exact h.ok y hy
theorem TwAt.ne (h : TwAt W tb c T) {b : Nat} {cs : Array Value} {ty : TypeId} {fz : Nat × Nat} (hb : W.heap[b]? = some (.cells cs ty fz)) : ¬ at1 tb b := fun e => by
 obtain ⟨es, cl, hm⟩ := h.blk
 rw [show b = tb from e, hm] at hb
 cases hb
end
theorem tellR_len {c : Cf} {ch : Nat} {inc : Int} {a : At} {ms : List Mg} {o : Option At} (h : TellR c ch inc a ms o) : ms.length ≤ 2 ∧ o.toList.length ≤ 1 := by
 rcases h with ⟨_, rfl, rfl⟩ | ⟨_, told, _, ⟨_, rfl, rfl⟩ | ⟨_, rfl, rfl⟩⟩
 ·simp
 ·split <;> simp
 ·split <;> simp
theorem tells_len {c : Cf} {ch : Nat} {inc : Int} : ∀ {L L' : List At} {ms : List Mg}, TellsR c ch inc L ms L' → ms.length ≤ 2 * L.length := by
 intro L
 induction L with
 | nil => rintro L' ms ⟨rfl, _⟩; simp
 | cons a L ih =>
  rintro L' ms (⟨_, L2, _, h⟩ | ⟨_, m1, m2, o, L2, rfl, _, h1, h2⟩)
  ·have := ih h; simp; omega
  ·have := ih h2
   have := (tellR_len h1).1
   simp
   omega
theorem runLs_len (b : Nat) : ∀ (L : List At) (n : Nat), (runL b n L).length = L.length
 | [], n => rfl
 | a :: L, n => by
  simp only [runL]
  split
  ·simp [runLs_len b L]
  ·split <;> simp [runLs_len b L]
theorem step_len {S S' : Rs} {ms : List Mg} (h : StepR S ms S') : ms.length ≤ 2 * S.L.length := by
 obtain ⟨L', h1, _⟩ := h
 have := tells_len h1
 rw [runLs_len] at this
 exact this
theorem arrM_len (S : Rs) (m : Ms) : (arrM S m).length ≤ 1 := by
 unfold arrM
 split
 ·simp
 ·split
  ·split
   ·simp
   ·split
    ·simp
    ·split <;> simp
  ·simp
theorem arrM_none {S : Rs} {m : Ms} (h6 : m.kind = 6) (h : (arrM S m).length = 0) : m.inc = S.inc := by
 by_cases e : m.inc = S.inc
 ·exact e
 ·unfold arrM at h
  rw [if_neg (by omega), if_pos h6, if_pos e] at h
  simp at h
theorem arr_tk (S : Rs) (m : Ms) : (arrS S m).tk = S.tk := by
 unfold arrS
 split
 ·rfl
 ·split
  ·split
   ·rfl
   ·split <;> rfl
  ·split
   ·rfl
   ·split <;> rfl
def Is15 (T : Int → Bool) (S : Rs) : Prop := ∀ x, T x = true ↔ x ∈ S.L.map (·.id)
structure MsK (tb : Nat) (a : Option Addr) (cap : Nat) (ms : List Mg) (W : World) : Prop where
 mg : ∃ lo, tb < lo ∧ MgsAt lo W a ms.length cap ms ∧ ∀ z, a = some z → lo ≤ z.block
section
variable {wA W W' : World} {p : Option Addr} {s : Sg} {t tb c : Nat} {T : Int → Bool} {S : Rs} {F It : Nat → Prop} {a : Option Addr} {cap : Nat} {ms : List Mg}
theorem MsK.below (h : MsK tb a cap ms W) (hb : Below W.heap.size W W') : MsK tb a cap ms W' := by
 obtain ⟨lo, h1, h2, h3⟩ := h.mg
 exact ⟨lo, h1, h2.below hb, h3⟩
theorem MsK.mapT (h : MsK tb a cap ms W) (hb : Fb (at1 tb) W W') : MsK tb a cap ms W' := by
 obtain ⟨lo, h1, h2, h3⟩ := h.mg
 exact ⟨lo, h1, h2.fb h3 fun k hk hlt => hb.block k hlt fun e => by have : k = tb := e; omega, h3⟩
theorem MsK.room (h : MsK tb a cap ms W) : ms.length ≤ cap ∧ cap ≤ 9223372036854775807 := by
 obtain ⟨lo, _, h2, _⟩ := h.mg
 exact ⟨h2.room, h2.most⟩
theorem rm_step (h : RmB wA p s t tb c T S F It W) (ht : t ≤ 90000) (hT : Is15 T S) : Calls Tryz.prog 14 #[.pointer p] W fun e w' => ∃ a cap ms, e = .returned (.slice a ms.length cap) ∧
  Hid (∃ S' F' It', RmB wA p s (t + 32) tb c T S' F' It' w' ∧ MsK tb a cap ms w' ∧ ms.length ≤ 160 ∧ okT S'.inc T ms ∧ Is15 (runT T ms) S' ∧ Fb F W w') := by
 refine (en_step W h.en (Nat.le_trans h.tk ht)).mono ?_
 rintro e w' ⟨ms, S', hS, a, cap, F', It', rfl, hM, ha, hE', hF', hI', hb'⟩
 obtain ⟨k1, k2, k3⟩ := step_ids hS h.en.ok.one T hT
 have hl := step_len hS
 have hl2 := setB_few h.en.ok
 have htl := h.th.lt
 refine ⟨a, cap, ms, rfl, S', F', It', ⟨hE', ?_, ?_, h.th.same (hb'.block _ htl h.tF), fun hf => ?_, fun j hj => ?_, h.tlo, h.bel.trans (hb'.to h.lo h.bel.size), h.ok⟩, ⟨W.heap.size, htl, hM, fun z hz => (ha z hz).1⟩, by omega, by rw [k3]; exact k1, k2, hb'⟩
 ·obtain ⟨L', _, rfl⟩ := hS; exact h.set
 ·obtain ⟨L', _, rfl⟩ := hS; have := h.tk; show S.tk + 32 ≤ t + 32; omega
 ·rcases hF' tb hf with h' | h'
  ·exact h.tF h'
  ·omega
 ·rcases hF' j hj with h' | h'
  ·exact h.lo j h'
  ·exact Nat.le_trans h.bel.size h'
theorem rm_arr (h : RmB wA p s t tb c T S F It W) (m : Ms) (hm : MsIn W m) (ho : MsOk m) (hj : ∀ k, mJ m.job k → k < wA.heap.size) : Calls Tryz.prog 18 #[.pointer p, .agg (MsV m)] W fun e w' => ∃ a cap, e = .returned (.slice a (arrM S m).length cap) ∧
  Hid (∃ F' It', RmB wA p s t tb c T (arrS S m) F' It' w' ∧ MsK tb a cap (arrM S m) w' ∧ Fb F W w') := by
 refine (en_arr m W h.en hm ho fun k hk hf => by have := hj k hk; have := h.lo k hf; omega).mono ?_
 rintro e w' ⟨a, cap, F', It', rfl, hM, ha, hE', hF', hI', hb'⟩
 have htl := h.th.lt
 refine ⟨a, cap, rfl, F', It', ⟨hE', by rw [arr_set]; exact h.set, by rw [arr_tk]; exact h.tk, h.th.same (hb'.block _ htl h.tF), fun hf => ?_, fun j hj => ?_, h.tlo, h.bel.trans (hb'.to h.lo h.bel.size), h.ok⟩, ⟨W.heap.size, htl, hM, fun z hz => (ha z hz).1⟩, hb'⟩
 ·rcases hF' tb hf with h' | h'
  ·exact h.tF h'
  ·omega
 ·rcases hF' j hj with h' | h'
  ·exact h.lo j h'
  ·exact Nat.le_trans h.bel.size h'
theorem rm_crash (h : RmB wA p s t tb c T S F It W) : Calls Tryz.prog 16 #[.pointer p] W fun e w' => ∃ n, e = .returned (.int .u64 n) ∧
  Hid (∃ S' F' It', RmB wA p s t w'.heap.size 0 (fun _ => false) S' F' It' (w'.alloc (.map #[] 0)) ∧ Is15 (fun _ => false) S' ∧ Fb F W w') := by
 refine (en_crash W h.en).mono ?_
 rintro e w' ⟨rfl, F', It', hE', hF', hI', hb'⟩
 have hal : Below w'.heap.size w' (w'.alloc (.map #[] 0)) := (Below.refl _ _).alloc (Nat.le_refl _) _
 have hbel := h.bel.trans (hb'.to h.lo h.bel.size)
 refine ⟨_, rfl, _, F', It', ⟨hE'.below hal, h.set, h.tk, TwAt.new w', fun hf => Nat.lt_irrefl _ (hE'.old _ hf), fun j hj => ?_, hbel.size, hbel.trans (hal.mono hbel.size), fun x hx => by cases hx⟩, fun x => by simp, hb'⟩
 rcases hF' j hj with h' | h'
 ·exact h.lo j h'
 ·exact Nat.le_trans h.bel.size h'
end
section
variable {wA W W' : World} {p : Option Addr} {s : Sg} {t t' tb c : Nat} {T : Int → Bool} {S : Rs} {F It : Nat → Prop} {a : Option Addr} {cap : Nat} {ms : List Mg} {k q sb mk : Nat} {kd : Int}
theorem RmB.up (h : RmB wA p s t tb c T S F It W) (ht : t ≤ t') : RmB wA p s t' tb c T S F It W := ⟨h.en, h.set, Nat.le_trans h.tk ht, h.th, h.tF, h.lo, h.tlo, h.bel, h.ok⟩
theorem rm_incq (h : RmB wA p s t tb c T S F It W) : Calls Tryz.prog 21 #[.pointer p] W fun e w' => e = .returned (.int .u64 S.inc) ∧ w' = W := by
 obtain ⟨B, mb, pm, pc, qv, bv, nd, bs, qs, Fc, rfl, h1, rfl⟩ := h.en.rest
 exact (einc_any h1).mono fun e w' ⟨h1, h2⟩ => ⟨h1, h2.symm⟩
theorem rm_loadq (h : RmB wA p s t tb c T S F It W) : Calls Tryz.prog 22 #[.pointer p] W fun e w' => e = .returned (.int .i64 S.L.length) ∧ w' = W := by
 obtain ⟨B, mb, pm, pc, qv, bv, nd, bs, qs, Fc, rfl, h1, rfl⟩ := h.en.rest
 exact (eload_any h1).mono fun e w' ⟨h1, h2⟩ => ⟨h1, h2.symm⟩
theorem RmB.inc (h : RmB wA p s t tb c T S F It W) : isU S.inc := by have := h.en.ok.inc; unfold isU; omega
def SbK (sb : Nat) (kd : Int) (W : World) : Prop := ∃ cs : Array Value, W.heap[sb]? = some (.cells cs 47 (0, 0)) ∧ cs[0]? = some (.int .u8 kd)
theorem SbK.below (h : SbK sb kd W) (hb : Below W.heap.size W W') : SbK sb kd W' := by obtain ⟨cs, h1, h2⟩ := h; exact ⟨cs, block_bel h1 hb, h2⟩
theorem SbK.fb (h : SbK sb kd W) (hb : Fb F W W') (h1 : ¬ F sb) : SbK sb kd W' := by obtain ⟨cs, h2, h3⟩ := h; exact ⟨cs, hb.one h2 h1, h3⟩
theorem SbK.mapT (h : SbK sb kd W) (ht : TwAt W tb c T) (hb : Fb (at1 tb) W W') : SbK sb kd W' := by obtain ⟨cs, h2, h3⟩ := h; exact ⟨cs, hb.one h2 (ht.ne h2), h3⟩
theorem SbK.cell (h : SbK sb kd W) : W.cell? ⟨sb, 0, none⟩ = some (.int .u8 kd) := by obtain ⟨cs, h2, h3⟩ := h; rw [cell_of_row _ _ _ _ _ _ h2]; exact h3
def RmS (wA : World) (p : Option Addr) (s : Sg) (k tb : Nat) (W : World) : Prop := ∃ c T S F It, RmB wA p s (32 * k) tb c T S F It W ∧ c ≤ 200 * k ∧ Is15 T S
def RmM (wA : World) (p : Option Addr) (s : Sg) (k : Nat) (kd : Int) (sb tb : Nat) (a : Option Addr) (cap : Nat) (ms : List Mg) (q : Nat) (W : World) : Prop :=
 ∃ c T S F It, RmB wA p s (32 * (k + 1)) tb c T S F It W ∧ c ≤ 200 * k + 1 + q ∧ k ≤ 30 ∧ ms.length ≤ 160 ∧ MsK tb a cap ms W ∧ SbK sb kd W ∧ ((kd % 3 = 1 ∧ okT S.inc T (ms.drop q) ∧ Is15 (runT T (ms.drop q)) S) ∨ (¬ kd % 3 = 1 ∧ Is15 T S))
theorem RmM.below (h : RmM wA p s k kd sb tb a cap ms q W) (hb : Below W.heap.size W W') : RmM wA p s k kd sb tb a cap ms q W' := by
 obtain ⟨c, T, S, F, It, h1, h2, h3, h4, h5, h6, h7⟩ := h
 exact ⟨c, T, S, F, It, h1.below hb, h2, h3, h4, h5.below hb, h6.below hb, h7⟩
theorem RmM.kd0 (h : RmM wA p s k kd sb tb a cap ms q W) : W.cell? ⟨sb, 0, none⟩ = some (.int .u8 kd) := by
 obtain ⟨c, T, S, F, It, h1, h2, h3, h4, h5, h6, h7⟩ := h
 exact h6.cell
theorem RmM.room (h : RmM wA p s k kd sb tb a cap ms q W) : ms.length ≤ cap ∧ cap ≤ 9223372036854775807 := by
 obtain ⟨c, T, S, F, It, h1, h2, h3, h4, h5, h6, h7⟩ := h
 exact h5.room
theorem RmM.done (h : RmM wA p s k kd sb tb a cap ms ms.length W) : RmS wA p s (k + 1) tb W := by
 obtain ⟨c, T, S, F, It, h1, h2, h3, h4, h5, h6, h7⟩ := h
 refine ⟨c, T, S, F, It, h1, by omega, ?_⟩
 rcases h7 with ⟨_, _, h⟩ | ⟨_, h⟩
 ·rw [List.drop_length] at h; exact h
 ·exact h
theorem RmM.at (h : RmM wA p s k kd sb tb a cap ms q W) (hq : q < ms.length) : ∃ b off la ll lc, a = some ⟨b, off, none⟩ ∧
  (W.cell? ⟨b, off + q * 12, none⟩ = some (.int .i64 ms[q].kind) ∧ W.cell? ⟨b, off + q * 12 + 1, none⟩ = some (.int .u64 0) ∧ W.cell? ⟨b, off + q * 12 + 2, none⟩ = some (.int .u64 0) ∧ W.cell? ⟨b, off + q * 12 + 3, none⟩ = some (.int .u64 ms[q].att) ∧ W.cell? ⟨b, off + q * 12 + 4, none⟩ = some (.int .u64 ms[q].inc) ∧ W.cell? ⟨b, off + q * 12 + 5, none⟩ = some (.int .u64 ms[q].n) ∧ W.cell? ⟨b, off + q * 12 + 6, none⟩ = some (.int .u64 ms[q].cnt) ∧ W.cell? ⟨b, off + q * 12 + 7, none⟩ = some (.int .i64 ms[q].why) ∧ W.cell? ⟨b, off + q * 12 + 8, none⟩ = some (.int .u64 0) ∧ W.cell? ⟨b, off + q * 12 + 9, none⟩ = some (.slice none 0 0) ∧ W.cell? ⟨b, off + q * 12 + 10, none⟩ = some (.int .i64 0) ∧ W.cell? ⟨b, off + q * 12 + 11, none⟩ = some (.slice la ll lc)) ∧
  (¬ kd % 3 = 1 → ∀ W', Below W.heap.size W W' → RmM wA p s k kd sb tb a cap ms (q + 1) W') ∧
  (kd % 3 = 1 → (∀ W', Below W.heap.size W W' → (Instr.lookup 66 (.map (some tb)) (.int .u64 ms[q].att) false).run Tryz.prog W' = .ok (.bool true) W' ∧ Calls Tryz.prog 21 #[.pointer p] W' fun e w' => e = .returned (.int .u64 ms[q].inc) ∧ w' = W') ∧
   (¬ ms[q].kind = 9 → ∀ W', Below W.heap.size W W' → RmM wA p s k kd sb tb a cap ms (q + 1) W') ∧
   (ms[q].kind = 9 → ∀ W', Below W.heap.size W W' → ∃ W2, (Instr.mapUpdate 66 (.map (some tb)) (.int .u64 ms[q].att) (.bool false)).run Tryz.prog W' = .ok () W2 ∧ RmM wA p s k kd sb tb a cap ms (q + 1) W2)) := by
 obtain ⟨c, T, S, F, It, h1, h2, h3, h4, h5, h6, h7⟩ := h
 obtain ⟨lo, m1, m2, m3⟩ := h5.mg
 obtain ⟨b, off, la, ll, lc, ea, _, _, c0, c1, c2, c3, c4, c5, c6, c7, c8, c9, c10, c11⟩ := m2.at hq
 rw [Nat.add_zero] at c0
 refine ⟨b, off, la, ll, lc, ea, ⟨c0, c1, c2, c3, c4, c5, c6, c7, c8, c9, c10, c11⟩, fun hk W' hb => ?_, fun hk => ?_⟩
 ·refine ⟨c, T, S, F, It, h1.below hb, by omega, h3, h4, h5.below hb, h6.below hb, .inr ⟨hk, ?_⟩⟩
  rcases h7 with ⟨e, _⟩ | ⟨_, e⟩
  ·exact absurd e hk
  ·exact e
 ·have h8 : okT S.inc T (ms.drop q) ∧ Is15 (runT T (ms.drop q)) S := by
   rcases h7 with ⟨_, e⟩ | ⟨e, _⟩
   ·exact e
   ·exact absurd hk e
  rw [List.drop_eq_getElem_cons hq] at h8
  obtain ⟨⟨o1, o2, o3⟩, o4⟩ := h8
  have o5 : Is15 (runT (ovT T ms[q]) (ms.drop (q + 1))) S := o4
  refine ⟨fun W' hb => ⟨?_, ?_⟩, fun h9 W' hb => ?_, fun h9 W' hb => ?_⟩
  ·have := (h1.below hb).th.look (h1.ok _ o1)
   rw [o1] at this
   exact this
  ·rw [o2]; exact rm_incq (h1.below hb)
  ·have e : ovT T ms[q] = T := by unfold ovT; rw [if_neg h9]
   rw [e] at o3 o5
   exact ⟨c, T, S, F, It, h1.below hb, by omega, h3, h4, h5.below hb, h6.below hb, .inl ⟨hk, o3, o5⟩⟩
  ·have e : ovT T ms[q] = fun x => if x = ms[q].att then false else T x := by unfold ovT; rw [if_pos h9]
   rw [e] at o3 o5
   obtain ⟨W2, r1, r2, r3⟩ := (h1.below hb).put (by omega) (h1.ok _ o1) false
   exact ⟨W2, r1, _, _, S, F, It, r2, by omega, h3, h4, (h5.below hb).mapT r3, (h6.below hb).mapT (h1.below hb).th r3, .inl ⟨hk, o3, o5⟩⟩
theorem RmS.att (h : RmS wA p s k tb W) : Calls Tryz.prog 25 #[.pointer p] W fun e w' => ∃ (a : Option Addr) (N cap : Nat) (ids : List Int), e = .returned (.slice a N cap) ∧ Hid (Reads .u64 w' a N cap ids ∧ RmS wA p s k tb w' ∧ (N : Int) ≤ s.q + s.b ∧ setB s = true ∧
  (∀ W', Below w'.heap.size w' W' → (∀ x ∈ ids, (Instr.lookup 66 (.map (some tb)) (.int .u64 x) false).run Tryz.prog W' = .ok (.bool true) W') ∧ Calls Tryz.prog 22 #[.pointer p] W' fun e w'' => e = .returned (.int .i64 N) ∧ w'' = W')) := by
 obtain ⟨c, T, S, F, It, h1, h2, h3⟩ := h
 refine (en_att W h1.en).mono ?_
 rintro e w' ⟨v, rfl, H⟩
 obtain ⟨ho, hb⟩ := H.out
 obtain ⟨a, cap, rfl, hr⟩ := Reads.own (k := .u64) ho
 refine ⟨a, S.L.length, cap, _, rfl, hr, ⟨c, T, S, F, It, h1.below hb, h2, h3⟩, by rw [← h1.set]; exact h1.en.ok.few, by rw [← h1.set]; exact h1.en.ok.set, fun W' hb' => ⟨fun x hx => ?_, rm_loadq ((h1.below hb).below hb')⟩⟩
 have hT : T x = true := (h3 x).2 (risL_mem.1 hx)
 have := ((h1.below hb).below hb').th.look (h1.ok x hT)
 rw [hT] at this
 exact this
theorem RmM.step (h : RmB wA p s (32 * k + 32) tb c T S F It W) (hc : c ≤ 200 * k) (hk : k ≤ 30) (hl : ms.length ≤ 160) (hm : MsK tb a cap ms W) (hs : SbK sb kd W) (h1 : kd % 3 = 1) (h2 : okT S.inc T ms) (h3 : Is15 (runT T ms) S) : RmM wA p s k kd sb tb a cap ms 0 W :=
 ⟨c, T, S, F, It, h, by omega, hk, hl, hm, hs, .inl ⟨h1, h2, h3⟩⟩
theorem RmM.other (h : RmB wA p s (32 * k) tb c T S F It W) (hc : c ≤ 200 * k + 1) (hk : k ≤ 30) (hl : ms.length ≤ 160) (hm : MsK tb a cap ms W) (hs : SbK sb kd W) (h1 : ¬ kd % 3 = 1) (h2 : Is15 T S) : RmM wA p s k kd sb tb a cap ms 0 W :=
 ⟨c, T, S, F, It, h.up (by omega), by omega, hk, hl, hm, hs, .inr ⟨h1, h2⟩⟩
theorem MsK.none (tb : Nat) (W : World) : MsK tb none 0 [] W := ⟨tb + 1, by omega, ⟨rfl, Nat.le_refl _, by omega, fun _ => ⟨rfl, rfl⟩, fun i hi => absurd hi (by simp)⟩, fun z hz => by cases hz⟩
end
end Go.Proofs.YtjgggialnegddaaGreat
