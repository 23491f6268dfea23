/-
  The document's ring: has, near, Drop.
-/
import Derived.Test.YtaiojhigomdocaaRfSt
namespace Go.Proofs.Ytaiojhigomdocaa
open Go.RowKit Go.Maps Go.Shelf Go.Sort
set_option linter.unusedVariables false
set_option maxRecDepth 1000000

theorem rhas_any {W : World} {B : Nat} {s : Int} {e : Nat} {u : Value} {l : List Int} (h : RfAt W B s e u l) (x : Int) :
    Calls Try.prog 27 #[.pointer (some ⟨B, 0, none⟩), .int .u64 x] W fun r w' => r = .returned (.bool (decide (x ∈ l))) ∧ w' = W := by
  have c2 := h.obj.cells.2.2
  obtain ⟨a, cap, rfl, hr⟩ := h.row.reads
  obtain ⟨n, Hn⟩ : ∃ n, Hid (l.length = n) := ⟨_, rfl⟩
  have hn : n ≤ 64 := by rw [← Hn.out]; exact h.len
  rw [Hn.out] at hr c2
  have HC := hid hr.cell
  have HRm : Hid (n ≤ cap ∧ cap ≤ 9223372036854775807) := ⟨hr.room, hr.most⟩
  clear h hr
  go_enter Try.func27, Try.ntmps27
  go_wp2_with fail
  go_loopw [5] (fun z W' => ∃ k : Nat, k ≤ n ∧ z = .int .i64 k ∧ W' = W ∧ Hid (x ∉ l.take k)) (fun z _ => n - (intOf z).toNat)
  case atStart => exact ⟨0, by omega, rfl, rfl, by unfold Hid; simp⟩
  case round =>
  obtain ⟨k, hk, rfl, rfl, HX⟩ := hrel
  by_cases hkn : k < n
  · have g1 : (k : Int) < (n : Int) := by omega
    obtain ⟨b, off, rfl, hc⟩ := HC.out k hkn
    obtain ⟨y, Hy⟩ : ∃ y, Hid (l[k]? = some y) := ⟨l[k]'(by rw [Hn.out]; exact hkn), List.getElem?_eq_getElem _⟩
    rw [Hy.out] at hc
    have hc' : wr.cell? ⟨b, off + k, none⟩ = some (.int .u64 y) := hc
    clear hc
    by_cases e : y = x
    · subst e
      have HM : Hid (decide (y ∈ l) = true) := decide_eq_true (List.mem_of_getElem? Hy.out)
      go_wp2
      go_ret
      exact ⟨by rw [HM.out]; rfl, rfl⟩
    · have e' : (y == x) = false := by simp [e]
      have HN : Hid (x ∉ l.take (k + 1)) := by
        unfold Hid
        rw [List.take_add_one, Hy.out]
        simp [HX.out]
        exact fun h => e h.symm
      go_wp2
      go_round
      case rel => exact ⟨k + 1, by omega, by go_num, by first | rfl | trivial, HN⟩
      case measure => simp [intOf]; omega
  · have g1 : ¬ (k : Int) < (n : Int) := by omega
    have HN : Hid (decide (x ∈ l) = false) := by
      have := HX.out
      rw [List.take_of_length_le (by rw [Hn.out]; omega)] at this
      exact decide_eq_false this
    go_wp2
    go_ret
    exact ⟨by rw [HN.out]; rfl, rfl⟩
/-- How far upward a point is. -/
def dstZ (q a : Int) : Int := IntKind.u64.wrap (a - q)
/-- The nearest of the first k + 1 points. -/
def nearK (sd q : Int) : Nat → Int
  | 0 => dstZ q (atZ sd ((0 : Nat) : Int))
  | k + 1 => min (nearK sd q k) (dstZ q (atZ sd ((k + 1 : Nat) : Int)))
/-- How far upward a node's nearest point is. -/
def nearZ (s : Int) (e : Nat) (x q : Int) : Int := nearK (deriveZ s [x]) q (e - 1)
set_option maxHeartbeats 2000000 in
theorem rnear_any {W : World} {B : Nat} {s : Int} {e : Nat} {u : Value} {l : List Int} (h : RfAt W B s e u l) (x q : Int) :
    Calls Try.prog 36 #[.pointer (some ⟨B, 0, none⟩), .int .u64 x, .int .u64 q] W fun r w' => r = .returned (.int .u64 (nearZ s e x q)) ∧ Hid (RowKit.Below W.heap.size W w') := by
  obtain ⟨sd, Hsd⟩ : ∃ sd, Hid (deriveZ s [x] = sd) := ⟨_, rfl⟩
  have c0 := h.obj.cells.1
  have he := h.each
  have hb : RowKit.Below W.heap.size W (W.alloc (.cells #[.int .u64 x] 22)) := (RowKit.Below.refl _ _).alloc (Nat.le_refl _) _
  have c1 := (h.below hb).obj.cells.2.1
  have hD := rderive_any s (some ⟨W.heap.size, 0, none⟩) 1 1 [x] _ (Reads.one W x 22) (by omega)
  rw [Hsd.out] at hD
  have HB := hid hb
  have HP : Hid (∀ k : Nat, nearK sd q (k + 1) = min (nearK sd q k) (dstZ q (atZ sd ((k + 1 : Nat) : Int)))) := fun k => rfl
  have HP0 : Hid (nearK sd q 0 = dstZ q (atZ sd ((0 : Nat) : Int))) := rfl
  have HE : Hid (nearZ s e x q = nearK sd q (e - 1)) := by unfold nearZ Hid; rw [Hsd.out]
  have hA0 := fun W : World => rat_any sd 0 W
  obtain ⟨a0, Ha0⟩ : ∃ a, Hid (atZ sd 0 = a) := ⟨_, rfl⟩
  rw [Ha0.out] at hA0
  clear h hb
  go_enter Try.func36, Try.ntmps36
  go_wp2_with fail
  refine hD.mono ?_
  rintro r w1 ⟨rfl, rfl⟩
  clear hD c0
  generalize W.alloc (.cells #[.int .u64 x] 22) = w1 at *
  go_wp2_with fail
  refine (hA0 w1).mono ?_
  rintro r w2 ⟨rfl, rfl⟩
  clear hA0
  go_wp2_with fail
  go_loopw [8, 9] (fun y z W' => ∃ (k : Nat) (d : Int), 1 ≤ k ∧ k ≤ e ∧ y = .int .u64 d ∧ z = .int .i64 k ∧ Hid (nearK sd q (k - 1) = d) ∧ W' = w2) (fun _ z _ => e - (intOf z).toNat)
  case atStart => exact ⟨1, dstZ q a0, by omega, he.1, rfl, rfl, by unfold Hid; rw [show 1 - 1 = 0 from rfl, HP0.out]; rw [← Ha0.out]; rfl, rfl⟩
  case round =>
  obtain ⟨k, d, hk1, hk, rfl, rfl, HK, rfl⟩ := hrel
  by_cases hke : k < e
  · have g1 : (k : Int) < (e : Int) := by omega
    have hwk : IntKind.u64.wrap (k : Int) = (k : Int) := by rw [IntKind.wrap_u64]; omega
    obtain ⟨a1, Ha1⟩ : ∃ a, Hid (atZ sd (k : Int) = a) := ⟨_, rfl⟩
    have hA := rat_any sd (k : Int) wr
    rw [Ha1.out] at hA
    obtain ⟨d1, hd1⟩ : ∃ d1, IntKind.u64.wrap (a1 - q) = d1 := ⟨_, rfl⟩
    have HN : Hid (nearK sd q (k + 1 - 1) = min d d1) := by
      have := HP.out (k - 1)
      rw [show k - 1 + 1 = k by omega] at this
      unfold Hid
      rw [show k + 1 - 1 = k by omega, this, HK.out, Ha1.out]
      unfold dstZ
      rw [hd1]
    go_wp2_with fail
    refine hA.mono ?_
    rintro r w3 ⟨rfl, rfl⟩
    clear hA
    go_wp2_with fail
    go_round
    case rel => exact ⟨k + 1, min d d1, by omega, by omega, rfl, by go_num, HN, by first | rfl | trivial⟩
    case measure => simp [intOf]; omega
  · have g1 : ¬ (k : Int) < (e : Int) := by omega
    obtain rfl : k = e := by omega
    go_wp2_with fail
    go_ret
    exact ⟨by rw [HE.out, HK.out]; rfl, HB⟩
/-- The document's Drop. -/
def rfdrop (l : List Int) (x : Int) : Int × List Int := if x ∈ l then (0, l.filter fun y => !(y == x)) else (6, l)
set_option maxHeartbeats 4000000 in
theorem rdrop_any {W : World} {B : Nat} {s : Int} {e : Nat} {u : Value} {l : List Int} (h : RfAt W B s e u l) (x : Int) :
    Calls Try.prog 13 #[.pointer (some ⟨B, 0, none⟩), .int .u64 x] W fun r w' => r = .returned (.int .i64 (rfdrop l x).1) ∧ Hid (RfO W B s e u (rfdrop l x).2 w') := by
  have hH := rhas_any h x
  obtain ⟨ZA, HZ⟩ : ∃ q, Hid (rfdrop l x = q) := ⟨_, rfl⟩
  rw [HZ.out]
  by_cases hin : x ∈ l
  · obtain rfl : (0, l.filter fun y => !(y == x)) = ZA := by rw [← HZ.out]; unfold rfdrop; rw [if_pos hin]
    rw [decide_eq_true hin] at hH
    obtain ⟨a, cap, hu, hr⟩ := h.row.reads
    have H := hid h
    obtain ⟨n, Hn⟩ : ∃ n, Hid (l.length = n) := ⟨_, rfl⟩
    have hn : n ≤ 64 := by rw [← Hn.out]; exact h.len
    rw [Hn.out] at hu hr
    subst hu
    have HK : Hid (∀ W' : World, RowKit.Below W.heap.size W W' → W'.cell? ⟨B, 2, none⟩ = some (.slice a n cap) ∧ Reads .u64 W' a n cap l) := fun W' hb => ⟨(H.out.below hb).obj.cells.2.2, hr.below hb⟩
    have HRm : Hid (n ≤ cap ∧ cap ≤ 9223372036854775807) := ⟨hr.room, hr.most⟩
    obtain ⟨i0, hi0, hz0, hz1, hz2⟩ := Go.info_parts Try.infoU
    clear h HZ hr hin
    go_enter Try.func13, Try.ntmps13
    go_wp2_with fail
    refine hH.mono ?_
    rintro r w1 ⟨rfl, rfl⟩
    clear hH
    go_wp2_with fail
    go_loopw [5, 6] (fun y z W' => ∃ (i : Nat) (v : Value), i ≤ n ∧ y = v ∧ z = .int .i64 i ∧ Hid (W'.ownsRow w1.heap.size 22 1 v ((l.take i).filter fun y => !(y == x)).length (((l.take i).filter fun y => !(y == x)).map (Value.int .u64)) ∧ RowKit.Below w1.heap.size w1 W')) (fun _ z _ => n - (intOf z).toNat)
    case atStart => exact ⟨0, .slice none 0 0, by omega, rfl, rfl, ⟨World.ownsRow_nil _ _ _ _, RowKit.Below.refl _ _⟩⟩
    case round =>
    obtain ⟨i, v, hi, hv, rfl, HI⟩ := hrel
    have hv' := hv.symm
    subst hv'
    rename World => w10
    have c2 := (HK.out _ HI.out.2).1
    by_cases hin2 : i < n
    · have g4 : (i : Int) < (n : Int) := by omega
      obtain ⟨bw, ow, rfl, hcw⟩ := (HK.out _ HI.out.2).2.cell i hin2
      obtain ⟨y, Hy⟩ : ∃ y, Hid (l[i]? = some y) := ⟨l[i]'(by rw [Hn.out]; exact hin2), List.getElem?_eq_getElem _⟩
      rw [Hy.out] at hcw
      have hcw' : w10.cell? ⟨bw, ow + i, none⟩ = some (.int .u64 y) := hcw
      obtain ⟨acc, HAc⟩ : ∃ acc, Hid ((l.take i).filter (fun y => !(y == x)) = acc ∧ acc.length ≤ 64) := ⟨_, rfl, by
        have h1 := List.length_filter_le (fun y => !(y == x)) (l.take i)
        have h2 := List.length_take_le i l
        omega⟩
      have HNx : Hid ((l.take (i + 1)).filter (fun y => !(y == x)) = if y = x then acc else acc ++ [y]) := by
        unfold Hid
        rw [List.take_add_one, Hy.out, List.filter_append, HAc.out.1]
        by_cases e : y = x
        · rw [if_pos e]; simp [e]
        · rw [if_neg e]; simp [e]
      rw [HAc.out.1] at HI
      obtain ⟨n1, Hn1⟩ : ∃ n1, Hid (acc.length = n1) := ⟨_, rfl⟩
      have hn1 : n1 ≤ 64 := by rw [← Hn1.out]; exact HAc.out.2
      rw [Hn1.out] at HI
      obtain ⟨a1, cap1, rfl, _⟩ := Reads.own (k := .u64) HI.out.1
      clear hcw
      by_cases e : y = x
      · have HE2 : Hid ((l.take (i + 1)).filter (fun y => !(y == x)) = acc) := by
          have := HNx.out
          rw [if_pos e] at this
          exact this
        subst e
        go_wp2_with fail
        go_round
        case rel => exact ⟨i + 1, _, by omega, rfl, by go_num, by rw [HE2.out, Hn1.out]; exact HI⟩
        case measure => simp [intOf]; omega
      · have HE2 : Hid ((l.take (i + 1)).filter (fun y => !(y == x)) = acc ++ [y]) := by
          have := HNx.out
          rw [if_neg e] at this
          exact this
        have e' : (y == x) = false := by simp [e]
        have HNw := hid (news_one .u64 y w10 22)
        have HOa := hid (HI.out.1.alloc (.cells #[.int .u64 y] 22))
        go_wp2_with (at_builtin; refine wpList_append_own _ rfl _ _ 31 rfl w1.heap.size 22 i0 (.int .u64 0) 1 8 Try.underlying31 hi0 hz0 hz1 hz2 rfl (by decide) _ n1 _ rfl HOa.out ⟨w10.heap.size, 0, none⟩ 1 1 [.int .u64 y] rfl rfl HNw.out (one_cell .u64 y) (by unfold maxLen; omega) (by omega) (by have := HI.out.2.size; simp; omega) ?_; intro v3 w11 q1 q2 q3)
        have HF : Hid (w11.ownsRow w1.heap.size 22 1 v3 (n1 + 1) ((acc ++ [y]).map (Value.int .u64)) ∧ RowKit.Below w1.heap.size w1 w11) := by
          have q1' : w11.ownsRow w1.heap.size 22 1 v3 (n1 + 1) ((acc ++ [y]).map (Value.int .u64)) := by simpa using q1
          exact ⟨q1', (HI.out.2.alloc HI.out.2.size _).grown q2 (by have := HI.out.2.size; simp; omega) fun j hj => (HOa.out.lt j (by first | exact hj | exact hj.symm)).1⟩
        clear q1 q2 q3 HNw HOa
        go_wp2_with fail
        go_round
        case rel => exact ⟨i + 1, v3, by omega, rfl, by go_num, by rw [HE2.out, List.length_append, Hn1.out]; exact HF⟩
        case measure => simp [intOf]; omega
    · have g4 : ¬ (i : Int) < (n : Int) := by omega
      obtain rfl : i = n := by omega
      rw [List.take_of_length_le (by rw [Hn.out]; exact Nat.le_refl _)] at HI
      have f2 := (H.out.below HI.out.2).obj.frozen 2
      obtain ⟨a1, cap1, hv1, _⟩ := Reads.own (k := .u64) HI.out.1
      obtain ⟨n1, hn1⟩ : ∃ n1, (l.filter fun y => !(y == x)).length = n1 := ⟨_, rfl⟩
      rw [hn1] at hv1
      subst hv1
      have hv' : True := trivial
      have HF : Hid (RfO w1 B s e (.slice a i cap) (l.filter fun y => !(y == x)) (w10.setCell ⟨B, 2, none⟩ (.slice a1 n1 cap1))) := by
        have hob := (H.out.below HI.out.2).obj
        have hrow : UR w10 (.slice a1 n1 cap1) (l.filter fun y => !(y == x)) := own_base0 HI.out.1
        refine ⟨.slice a1 n1 cap1, ⟨hob.set _, hrow.same fun b hb => Below.heap_setCell _ _ _ _ (hob.far hrow hb), H.out.each, Nat.le_trans (List.length_filter_le _ _) H.out.len⟩, (Fb.of HI.out.2).trans (Fb.set (F := rfF B (.slice a i cap)) (.inl rfl) _) fun k hk => .inl hk, fun k hk => .inr ?_⟩
        exact (World.ownsRow.lt HI.out.1 k hk).1
      clear HI HK H hn1
      go_wp2_with fail
      go_ret
      exact ⟨rfl, HF⟩
  · rw [decide_eq_false hin] at hH
    obtain rfl : (6, l) = ZA := by rw [← HZ.out]; unfold rfdrop; rw [if_neg hin]
    have HS := hid (h.stay (RowKit.Below.refl W.heap.size W))
    clear h HZ
    go_enter Try.func13, Try.ntmps13
    go_wp2_with fail
    refine hH.mono ?_
    rintro r w1 ⟨rfl, rfl⟩
    go_wp2_with fail
    go_ret
    exact ⟨rfl, HS⟩
end Go.Proofs.Ytaiojhigomdocaa
