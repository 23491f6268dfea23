/-
  cut, textOf, nameOf, text, HasPrefix.
-/
import Derived.Test.YtdchoegaindnbaaPtStr
import Derived.BigQuiet
import Derived.Deep.Draws
namespace Go.Proofs.Ytdchoegaindnbaa
open Go.RowKit
set_option linter.unusedVariables false
set_option maxRecDepth 1000000

theorem cut_any {W : World} {B room size M : Nat} {time : Int} (h : TrB W B room size M time) (hr : room ≤ 4096) (hs : size ≤ 16) (a : Option Addr) (len cap : Nat) (hc : len ≤ cap) (hm : cap ≤ 9223372036854775807) :
    Calls Try.prog 23 #[.pointer (some ⟨B, 0, none⟩), .slice a len cap] W fun r w' => r = .returned (.slice a (min len (room * size)) cap) ∧ Hid (Below W.heap.size W w') := by
  have hL := longest_any h hr hs
  have hmm : room * size ≤ 4096 * 16 := Nat.mul_le_mul hr hs
  clear h
  generalize room * size = q at *
  rcases Nat.lt_trichotomy len q with hle | rfl | hle
  · rw [Nat.min_eq_left (Nat.le_of_lt hle)]
    go_enter Try.func23, Try.ntmps23
    go_wp2_with fail
    refine hL.mono ?_
    rintro r w1 ⟨rfl, H1⟩
    go_wp2
    go_ret
    exact ⟨rfl, H1⟩
  · rw [Nat.min_self]
    go_enter Try.func23, Try.ntmps23
    go_wp2_with fail
    refine hL.mono ?_
    rintro r w1 ⟨rfl, H1⟩
    go_wp2
    go_ret
    exact ⟨rfl, H1⟩
  · rw [Nat.min_eq_right (Nat.le_of_lt hle)]
    go_enter Try.func23, Try.ntmps23
    go_wp2_with fail
    refine hL.mono ?_
    rintro r w1 ⟨rfl, H1⟩
    go_wp2
    go_ret
    exact ⟨rfl, H1⟩
/-- 'make' of m numbers of 64 bits. -/
theorem make_u64s (w : World) (m : Nat) (hm : m ≤ 1001) : (Instr.makeSlice 73 (.int .i64 (m : Int)) (.int .i64 (m : Int))).run Try.prog w = .ok (.slice (some ⟨w.heap.size, 0, none⟩) m m) (w.alloc (.cells (madeCells #[.int .u64 0] m) 33)) := by
  obtain ⟨i0, hi, hz0, hz1, hz2⟩ := info_parts Try.infoU64
  have := run_make (P := Try.prog) w 73 33 i0 (.int .u64 0) Try.underlying73 hi hz0 .i64 .i64 (m : Int) (m : Int) (by omega) (Int.le_refl _) (by rw [hz2]; omega) (by omega)
  rw [this, hz1, Int.toNat_natCast, Nat.mul_one]
  rfl
/-- The row in block g holds these numbers of kind k. -/
def OwnN (k : IntKind) (t : TypeId) (base g m cap : Nat) (xs : List Int) (w : World) : Prop := w.ownsRow base t 1 (.slice (some ⟨g, 0, none⟩) m cap) m (xs.map (Value.int k))
theorem OwnN.len {k : IntKind} {t : TypeId} {base g m cap : Nat} {xs : List Int} {w : World} (h : OwnN k t base g m cap xs w) : xs.length = m := by have := h.1; simpa using this
theorem OwnN.cell {k : IntKind} {t : TypeId} {base g m cap : Nat} {xs : List Int} {w : World} (h : OwnN k t base g m cap xs w) {i : Nat} (hk : i < m) : w.cell? ⟨g, i, none⟩ = some (.int k (xs[i]?.getD 0)) := by
  have hl := h.len
  have := World.ownsRow.cellAt h i (by omega)
  rw [this]
  simp [(by omega : i < xs.length)]
theorem OwnN.frozen {k : IntKind} {t : TypeId} {base g m cap : Nat} {xs : List Int} {w : World} (h : OwnN k t base g m cap xs w) (i : Nat) : w.frozen? ⟨g, i, none⟩ = false := World.ownsRow.frozenAt h i
theorem OwnN.set {k : IntKind} {t : TypeId} {base g m cap : Nat} {xs : List Int} {w : World} (h : OwnN k t base g m cap xs w) (i : Nat) (v : Int) : OwnN k t base g m cap (xs.set i v) (w.setCell ⟨g, i, none⟩ (.int k v)) := by
  have := (World.ownsRow.stored h i (.int k v)).1
  unfold OwnN
  rw [List.map_set]
  exact this
theorem OwnN.lt {k : IntKind} {t : TypeId} {base g m cap : Nat} {xs : List Int} {w : World} (h : OwnN k t base g m cap xs w) : g < w.heap.size := (World.ownsRow.lt h g rfl).2
theorem OwnN.reads {k : IntKind} {t : TypeId} {base g m cap : Nat} {xs : List Int} {w : World} (h : OwnN k t base g m cap xs w) : Reads k w (some ⟨g, 0, none⟩) m cap xs := by
  obtain ⟨a, c, e, hr⟩ := Reads.own (k := k) h
  cases e
  exact hr
theorem OwnN.made (k : IntKind) (t : TypeId) (w : World) (m : Nat) (hm : m ≤ 1001) : OwnN k t w.heap.size w.heap.size m m (List.replicate m 0) (w.alloc (.cells (madeCells #[.int k 0] m) t)) := by
  have := World.ownsRow_lit (base := w.heap.size) (e := t) (size := 1) w (madeCells #[.int k 0] m) m (Nat.le_refl _) (by unfold maxLen; omega) (by simp [madeCells])
  unfold OwnN
  rw [List.map_replicate, ← toList_madeCells_one]
  exact this
theorem map_set (f : Int → Int) (ts : List Int) {k : Nat} (h : k < ts.length) : ((ts.take k).map f ++ List.replicate (ts.length - k) 0).set k (f (ts[k]?.getD 0)) = (ts.take (k + 1)).map f ++ List.replicate (ts.length - (k + 1)) 0 := by
  rw [List.set_append_right _ _ (by simp; omega), take_snoc h, List.map_append, List.append_assoc]
  congr 1
  rw [show ts.length - k = ts.length - (k + 1) + 1 by omega, List.replicate_succ]
  simp [Nat.min_eq_left (Nat.le_of_lt h)]
theorem isIs.at {ts : List Int} (h : isIs ts) (i : Nat) : isI (ts[i]?.getD 0) := by
  rcases Nat.lt_or_ge i ts.length with hi | hi
  · rw [List.getElem?_eq_getElem hi]; exact h _ (List.getElem_mem hi)
  · rw [List.getElem?_eq_none hi]; exact ⟨by simp, by simp⟩
set_option maxHeartbeats 2000000 in
theorem text_of {W : World} {a : Option Addr} {len cap : Nat} {ts : List Int} (hr : Reads .i64 W a len cap ts) (hi : isIs ts) (hl : len ≤ 1000) :
    Calls Try.prog 22 #[.slice a len cap] W fun r w' => r = .returned (.string (strOfNums (txZ ts))) ∧ Hid (Below W.heap.size W w') := by
  have hm := make_u64s W len (by omega)
  have H0 := hid (OwnN.made .u64 33 W len (by omega))
  have hb0 : Below W.heap.size W (W.alloc (.cells (madeCells #[.int .u64 0] len) 33)) := (Below.refl _ _).alloc (Nat.le_refl _) _
  generalize W.alloc (.cells (madeCells #[.int .u64 0] len) 33) = w0 at *
  have HL : Hid (ts.length = len) := hr.size
  have HR := hid hr
  have HI := hid hi
  clear hr hi
  have HB0 := hid hb0
  clear hb0
  obtain ⟨g, hg⟩ : ∃ g, W.heap.size = g := ⟨_, rfl⟩
  rw [hg] at hm HB0 H0
  rw [hg]
  go_enter Try.func22, Try.ntmps22
  go_wp2_with fail
  go_loopw [11] (fun z w => ∃ k : Nat, k ≤ len ∧ z = .int .i64 k ∧ Hid (Below g W w ∧ OwnN .u64 33 g g len len ((ts.take k).map foldZ ++ List.replicate (len - k) 0) w)) (fun z _ => len - (intOf z).toNat)
  case atStart => exact ⟨0, Nat.zero_le _, rfl, HB0.out, by simpa using H0.out⟩
  case round =>
  obtain ⟨k, hk, rfl, HK⟩ := hrel
  rename World => w1
  by_cases hlt : k < len
  · obtain ⟨b, off, rfl, hc0⟩ := (HR.out.below (hg ▸ HK.out.1)).cell k hlt
    have hF := fold_any (ts[k]?.getD 0) w1 (HI.out.at k).1 (HI.out.at k).2
    have hc1 := HK.out.2.cell hlt
    have hf1 := HK.out.2.frozen k
    have rm := HR.out.room
    have ms := HR.out.most
    have HN : Hid (Below g W (w1.setCell ⟨g, k, none⟩ (.int .u64 (foldZ (ts[k]?.getD 0)))) ∧ OwnN .u64 33 g g len len ((ts.take (k + 1)).map foldZ ++ List.replicate (len - (k + 1)) 0) (w1.setCell ⟨g, k, none⟩ (.int .u64 (foldZ (ts[k]?.getD 0))))) := by
      refine ⟨HK.out.1.trans ?_, ?_⟩
      · exact (Below.refl g w1).setCell (Nat.le_refl g) _
      have := HK.out.2.set k (foldZ (ts[k]?.getD 0))
      rw [← HL.out, map_set foldZ ts (by have := HL.out; omega), HL.out] at this
      exact this
    generalize ts[k]?.getD 0 = x at *
    generalize foldZ x = y at *
    clear HK H0 HB0
    go_wp2_with fail
    refine hF.mono ?_
    rintro r w2 ⟨rfl, rfl⟩
    clear hF
    go_wp2_with fail
    go_round
    case rel => exact ⟨k + 1, by omega, by go_num, HN⟩
    case measure => simp [intOf]; omega
  · have hkl : k = len := by omega
    subst hkl
    have hP := put_any none 0 0 [] (some ⟨g, 0, none⟩) k k (ts.map foldZ) w1 (Reads.nil _ _) (by
      have := HK.out.2.reads
      rw [List.take_of_length_le (by have := HL.out; omega), Nat.sub_self] at this
      simpa using this) (fold_u64 HI.out) (by omega) (by omega)
    have HB := hid HK.out.1
    clear HK H0 HB0 HR
    go_wp2_with fail
    refine hP.mono ?_
    rintro r w2 ⟨v, rfl, ho, hb⟩
    obtain ⟨a', c', rfl, hr'⟩ := Reads.own (k := .u8) ho
    have hcv := hr'.conv (P := Try.prog) 75 9 5 Try.underlying75 Try.underlying5 Try.underlying9
    have HE := hid (HB.out.trans (hb.mono (hg ▸ HB.out.size)))
    clear hP hr' ho hb HB
    rw [Nat.zero_add, List.nil_append] at hcv
    go_wp2_with fail
    go_ret
    exact ⟨rfl, HE⟩
/-- Put of one number, as a string's bytes. -/
theorem put_one {W : World} {x : Int} (hx : isU x) {g : Nat} (hg : W.heap.size = g) : Calls Try.prog 37 #[.slice none 0 0, .slice (some ⟨g, 0, none⟩) 1 1] (W.alloc (.cells #[.int .u64 x] 33)) fun r w' => ∃ a n c, r = .returned (.slice a n c) ∧ Hid ((convert 75 9 (.slice a n c)).run Try.prog w' = .ok (.string (strOfNums (encZ x))) w' ∧ Below g W w' ∧ Reads .u8 w' a n c (encZ x)) := by
  subst hg
  have hP := put_any none 0 0 [] (some ⟨W.heap.size, 0, none⟩) 1 1 [x] (W.alloc (.cells #[.int .u64 x] 33)) (Reads.nil _ _) (Reads.one _ _ _) (by intro y hy; simp at hy; rw [hy]; exact hx) (by omega) (by omega)
  refine hP.mono ?_
  rintro r w2 ⟨v, rfl, ho, hb⟩
  obtain ⟨a', c', rfl, hr'⟩ := Reads.own (k := .u8) ho
  have hcv := hr'.conv (P := Try.prog) 75 9 5 Try.underlying75 Try.underlying5 Try.underlying9
  rw [Nat.zero_add, List.nil_append, encsZ_one] at hcv hr'
  rw [Nat.zero_add, encsZ_one]
  exact ⟨_, _, _, rfl, hcv, ((Below.refl _ _).alloc (Nat.le_refl _) _).trans (hb.mono (by simp)), hr'⟩
set_option maxHeartbeats 2000000 in
theorem name_of {W : World} {a : Option Addr} {len cap : Nat} {ts : List Int} {x : Int} (hr : Reads .i64 W a len cap ts) (hi : isIs ts) (hl : len ≤ 1000) (hx : isU x) :
    Calls Try.prog 35 #[.slice a len cap, .int .u64 x] W fun r w' => r = .returned (.string (strOfNums (nmZ x ts))) ∧ Hid (Below W.heap.size W w') := by
  have HT := hid fun (w : World) (hb : Below W.heap.size W w) => text_of (hr.below hb) hi hl
  have HP := hid fun (w : World) => put_one (W := w) hx rfl
  have HA : Hid (strOfNums (encZ x) ++ strOfNums (txZ ts) = strOfNums (nmZ x ts)) := strN_app _ _
  have HV : Hid (Below W.heap.size W W.drew) := (Below.refl _ _).drew
  have HCv := hid fun (w : World) (a : Option Addr) (n c : Nat) (h : Reads .u8 w a n c (encZ x)) => h.conv (P := Try.prog) 75 9 5 Try.underlying75 Try.underlying5 Try.underlying9
  have hsz : ¬ 9223372036854775807 < (strOfNums (encZ x)).size + (strOfNums (txZ ts)).size := by
    rw [strOfNums_size, strOfNums_size]
    have := txZ_len hi
    have := (encZ_len hx.2).2
    have := hr.size
    omega
  clear hr hi
  generalize nmZ x ts = N at *
  generalize strOfNums (encZ x) = s1 at *
  generalize strOfNums (txZ ts) = s2 at *
  go_enter Try.func35, Try.ntmps35
  go_wp2_with fail
  go_region_with (first
    | (go_at_call 37; refine (HP.out W.drew).mono ?_; rintro r w1 ⟨a1, n1, c1, rfl, H1⟩; have hcv := H1.out.1; have HB1 := hid (HV.out.trans H1.out.2.1); have HR1 := hid H1.out.2.2; clear H1)
    | (go_at_call 22; refine (HT.out _ HB1.out).mono ?_; rintro r w2 ⟨rfl, H2⟩; have HB2 := hid (HB1.out.trans (H2.out.mono HB1.out.size)); have hcv2 := HCv.out _ _ _ _ (HR1.out.below H2.out); clear H2))
  all_goals
    go_wp2
    go_ret
    exact ⟨by rw [← HA.out]; rfl, HB2⟩
end Go.Proofs.Ytdchoegaindnbaa
