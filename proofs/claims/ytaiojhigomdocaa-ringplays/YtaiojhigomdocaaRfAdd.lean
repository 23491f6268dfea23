/-
  The document's ring: Add.
-/
import Derived.Test.YtaiojhigomdocaaRfHas
namespace Go.Proofs.Ytaiojhigomdocaa
open Go.RowKit Go.Maps Go.Shelf Go.Sort
set_option linter.unusedVariables false
set_option maxRecDepth 1000000

/-- A number laid into a rising list. -/
def insL (l : List Int) (x : Int) : List Int := l.takeWhile (fun y => decide (y < x)) ++ x :: l.dropWhile (fun y => decide (y < x))
theorem ins_at : ∀ {l : List Int} {x : Int} {i : Nat}, (∀ y ∈ l.take i, y < x) → (∀ y, l[i]? = some y → ¬ y < x) → insL l x = l.take i ++ x :: l.drop i
  | [], x, i, _, _ => by simp [insL]
  | y :: l, x, 0, _, h2 => by
    have := h2 y rfl
    simp [insL, this]
  | y :: l, x, i + 1, h1, h2 => by
    have hy := h1 y (by simp)
    have ih := ins_at (l := l) (x := x) (i := i) (fun z hz => h1 z (by simp [hz])) (fun z hz => h2 z (by simpa using hz))
    unfold insL at ih ⊢
    simp [hy, ih]
/-- The document's Add. -/
def rfadd (l : List Int) (x : Int) : Int × List Int := if x ∈ l then (7, l) else if 64 ≤ l.length then (5, l) else (0, insL l x)
theorem radd_exit {W w10 : World} {B : Nat} {s : Int} {e n cap : Nat} {a : Option Addr} {l : List Int} (h : RfAt W B s e (.slice a n cap) l) (hb : RowKit.Below W.heap.size W w10) {out : Value} {i : Nat} (hi : i ≤ n) (hn : l.length = n) (hn2 : n < 64)
    (ho : w10.ownsRow W.heap.size 22 1 out (l.take i).length ((l.take i).map (Value.int .u64))) (x : Int) (ty : TypeId) :
    ∃ (v1 : Value) (z2 : World) (ao : Option Addr) (c : Nat) (a9 : Option Addr) (n9 cap9 : Nat) (z3 : World),
      (Builtin.append_ #[31, 31] ty #[out, .slice (some ⟨w10.heap.size, 0, none⟩) 1 1]).run Try.prog (w10.drew.alloc (.cells #[.int .u64 x] 22)) = .ok v1 z2 ∧
      (∀ W' : World, (Instr.sliceAt 31 (.slice a n cap) (some (.int .i64 (i : Int))) none none).run Try.prog W' = .ok (.slice ao (n - i) c) W') ∧
      (Builtin.append_ #[31, 31] ty #[v1, .slice ao (n - i) c]).run Try.prog z2 = .ok (.slice a9 n9 cap9) z3 ∧
      w10.cell? ⟨B, 2, none⟩ = some (.slice a n cap) ∧ (w10.drew.alloc (.cells #[.int .u64 x] 22)).cell? ⟨B, 2, none⟩ = some (.slice a n cap) ∧ z2.cell? ⟨B, 2, none⟩ = some (.slice a n cap) ∧ z3.cell? ⟨B, 2, none⟩ = some (.slice a n cap) ∧ z3.frozen? ⟨B, 2, none⟩ = false ∧
      RfO W B s e (.slice a n cap) (l.take i ++ x :: l.drop i) (z3.setCell ⟨B, 2, none⟩ (.slice a9 n9 cap9)) := by
  subst hn
  obtain ⟨z1, hz1⟩ : ∃ z1, z1 = w10.drew.alloc (.cells #[.int .u64 x] 22) := ⟨_, rfl⟩
  have hb1 : RowKit.Below w10.heap.size w10 z1 := by rw [hz1]; exact (RowKit.Below.refl _ _).drew.alloc (Nat.le_refl _) _
  have hW1 : RowKit.Below W.heap.size W z1 := hb.trans (hb1.mono hb.size)
  have ho1 : z1.ownsRow W.heap.size 22 1 out (l.take i).length ((l.take i).map (Value.int .u64)) := own_blk ho fun b hb2 => hb1.block b (World.ownsRow.lt ho b hb2).2
  have hlt : (l.take i).length ≤ 64 := by have := List.length_take_le i l; omega
  obtain ⟨v1, z2, e1, u1, g1, m1⟩ := runApp z1 out (l.take i) (own_base0 ho1) (some ⟨w10.heap.size, 0, none⟩) 1 1 [x] (by rw [hz1]; exact Reads.one w10.drew x _) (by omega) ty
  have hW2 : RowKit.Below W.heap.size W z2 := hW1.trans ((RowKit.Below.refl _ _).grown g1 (by have := hW1.size; omega) fun b hb2 => (World.ownsRow.lt ho1 b hb2).1)
  have h2 := h.below hW2
  obtain ⟨ao, c, hs, hrd⟩ := h.row.from (i := i) hi
  obtain ⟨v2, z3, e2, u2, g2, m2⟩ := runApp z2 v1 (l.take i ++ [x]) u1 ao (l.length - i) c (l.drop i) (hrd z2 h2.row) (by rw [List.length_append]; simp; omega) ty
  have hv1 : ∀ b, v1.ownBlock = some b → W.heap.size ≤ b := fun b hb2 => by
    rcases m1 with m1 | ⟨o, m1, m1'⟩
    · rw [m1] at hb2
      exact (World.ownsRow.lt ho1 b hb2).1
    · rw [m1] at hb2
      obtain rfl : o = b := by simpa using hb2
      have := hW1.size
      omega
  have hW3 : RowKit.Below W.heap.size W z3 := hW2.trans ((RowKit.Below.refl _ _).grown g2 (by have := hW2.size; omega) hv1)
  have hv2 : ∀ b, v2.ownBlock = some b → W.heap.size ≤ b := fun b hb2 => by
    rcases m2 with m2 | ⟨o, m2, m2'⟩
    · rw [m2] at hb2
      exact hv1 b hb2
    · rw [m2] at hb2
      obtain rfl : o = b := by simpa using hb2
      have := hW2.size
      omega
  obtain ⟨a9, cap9, rfl, _⟩ := u2.reads
  have h3 := h.below hW3
  rw [hz1] at e1
  refine ⟨v1, z2, ao, c, a9, _, cap9, z3, e1, hs, e2, (h.below hb).obj.cells.2.2, ?_, h2.obj.cells.2.2, h3.obj.cells.2.2, h3.obj.frozen 2, ?_⟩
  · rw [← hz1]
    exact (h.below hW1).obj.cells.2.2
  · have el : l.take i ++ [x] ++ l.drop i = l.take i ++ x :: l.drop i := by simp
    rw [← el]
    refine ⟨_, ⟨h3.obj.set _, u2.same fun b hb2 => Below.heap_setCell _ _ _ _ (h3.obj.far u2 hb2), h.each, ?_⟩, (Fb.of hW3).trans (Fb.set (F := rfF B (.slice a l.length cap)) (.inl rfl) _) fun k hk => .inl hk, fun k hk => .inr (hv2 k hk)⟩
    simp
    omega
set_option maxHeartbeats 4000000 in
theorem radd_any {W : World} {B : Nat} {s : Int} {e : Nat} {u : Value} {l : List Int} (h : RfAt W B s e u l) (x : Int) :
    Calls Try.prog 15 #[.pointer (some ⟨B, 0, none⟩), .int .u64 x] W fun r w' => r = .returned (.int .i64 (rfadd l x).1) ∧ Hid (RfO W B s e u (rfadd l x).2 w') := by
  have hH := rhas_any h x
  obtain ⟨ZA, HZ⟩ : ∃ q, Hid (rfadd l x = q) := ⟨_, rfl⟩
  rw [HZ.out]
  by_cases hin : x ∈ l
  · rw [decide_eq_true hin] at hH
    obtain rfl : (7, l) = ZA := by rw [← HZ.out]; unfold rfadd; rw [if_pos hin]
    have HS := hid (h.stay (RowKit.Below.refl W.heap.size W))
    clear h HZ
    go_enter Try.func15, Try.ntmps15
    go_wp2_with fail
    refine hH.mono ?_
    rintro r w1 ⟨rfl, rfl⟩
    go_wp2_with fail
    go_ret
    exact ⟨rfl, HS⟩
  · rw [decide_eq_false hin] at hH
    obtain ⟨a, cap, hu, hr⟩ := h.row.reads
    have H := hid h
    obtain ⟨n, Hn⟩ : ∃ n, Hid (l.length = n) := ⟨_, rfl⟩
    rw [Hn.out] at hu hr
    subst hu
    have c2 := h.obj.cells.2.2
    by_cases h64 : 64 ≤ n
    · obtain rfl : (5, l) = ZA := by rw [← HZ.out]; unfold rfadd; rw [if_neg hin, if_pos (by rw [Hn.out]; exact h64)]
      have g1 : (64 : Int) ≤ (n : Int) := by omega
      have HS := hid (h.stay (RowKit.Below.refl W.heap.size W))
      clear h HZ
      go_enter Try.func15, Try.ntmps15
      go_wp2_with fail
      refine hH.mono ?_
      rintro r w1 ⟨rfl, rfl⟩
      go_wp2_with fail
      go_ret
      exact ⟨rfl, HS⟩
    · obtain rfl : (0, insL l x) = ZA := by rw [← HZ.out]; unfold rfadd; rw [if_neg hin, if_neg (by rw [Hn.out]; exact h64)]
      have g1 : ¬ (64 : Int) ≤ (n : Int) := by omega
      have HK : Hid (∀ W' : World, RowKit.Below W.heap.size W W' → W'.cell? ⟨B, 2, none⟩ = some (.slice a n cap) ∧ Reads .u64 W' a n cap l) := fun W' hb => ⟨(H.out.below hb).obj.cells.2.2, hr.below hb⟩
      have HRm : Hid (n ≤ cap ∧ cap ≤ 9223372036854775807) := ⟨hr.room, hr.most⟩
      obtain ⟨i0, hi0, hz0, hz1, hz2⟩ := Go.info_parts Try.infoU
      have HX : Hid (∀ (w10 : World) (out : Value) (i : Nat), i ≤ n → w10.ownsRow W.heap.size 22 1 out (l.take i).length ((l.take i).map (Value.int .u64)) ∧ RowKit.Below W.heap.size W w10 → _) := fun w10 out i hi hq => radd_exit H.out hq.2 hi Hn.out (by omega) hq.1 x 31
      clear h HZ hr
      go_enter Try.func15, Try.ntmps15
      go_wp2_with fail
      refine hH.mono ?_
      rintro r w1 ⟨rfl, rfl⟩
      clear hH
      go_wp2_with fail
      clear c2
      go_loopw [5, 6] (fun y z W' => ∃ (i : Nat) (v : Value), i ≤ n ∧ y = v ∧ z = .int .i64 i ∧ Hid (W'.ownsRow w1.heap.size 22 1 v (l.take i).length ((l.take i).map (Value.int .u64)) ∧ RowKit.Below w1.heap.size w1 W') ∧ Hid (∀ y ∈ l.take i, y < x)) (fun _ z _ => n - (intOf z).toNat)
      case atStart => exact ⟨0, .slice none 0 0, by omega, rfl, rfl, ⟨World.ownsRow_nil _ _ _ _, RowKit.Below.refl _ _⟩, by unfold Hid; simp⟩
      case round =>
      obtain ⟨i, v, hi, hv, rfl, HI, HLt⟩ := hrel
      have hv' := hv.symm
      subst hv'
      rename World => w10
      have HEx := hid (HX.out w10 v i hi HI.out)
      have c2 := (HK.out _ HI.out.2).1
      obtain ⟨n1, Hn1⟩ : ∃ n1, Hid ((l.take i).length = n1) := ⟨_, rfl⟩
      have hn1 : n1 ≤ 64 := by have := List.length_take_le i l; have := Hn1.out; omega
      by_cases hin2 : i < n
      · have g4 : (i : Int) < (n : Int) := by omega
        obtain ⟨bw, ow, rfl, hcw⟩ := (HK.out _ HI.out.2).2.cell i hin2
        obtain ⟨y, Hy⟩ : ∃ y, Hid (l[i]? = some y) := ⟨l[i]'(by rw [Hn.out]; exact hin2), List.getElem?_eq_getElem _⟩
        rw [Hy.out] at hcw
        have hcw' : w10.cell? ⟨bw, ow + i, none⟩ = some (.int .u64 y) := hcw
        clear hcw
        by_cases hyx : y < x
        · have HE2 : Hid (l.take (i + 1) = l.take i ++ [y] ∧ ∀ z ∈ l.take (i + 1), z < x) := by
            have e1 : l.take (i + 1) = l.take i ++ [y] := by rw [List.take_add_one, Hy.out]; rfl
            refine ⟨e1, fun z hz => ?_⟩
            rw [e1] at hz
            simp at hz
            rcases hz with hz | rfl
            · exact HLt.out z hz
            · exact hyx
          rw [Hn1.out] at HI
          obtain ⟨a1, cap1, rfl, _⟩ := Reads.own (k := .u64) HI.out.1
          have HNw := hid (news_one .u64 y w10 22)
          have HOa := hid (HI.out.1.alloc (.cells #[.int .u64 y] 22))
          clear HEx HX
          go_wp2_with (at_builtin; refine wpList_append_own _ rfl _ _ 31 rfl w1.heap.size 22 i0 (.int .u64 0) 1 8 Try.underlying31 hi0 hz0 hz1 hz2 rfl (by decide) _ n1 _ rfl HOa.out ⟨w10.heap.size, 0, none⟩ 1 1 [.int .u64 y] rfl rfl HNw.out (one_cell .u64 y) (by unfold maxLen; omega) (by omega) (by have := HI.out.2.size; simp; omega) ?_; intro v3 w11 q1 q2 q3)
          have HF : Hid (w11.ownsRow w1.heap.size 22 1 v3 (n1 + 1) ((l.take i ++ [y]).map (Value.int .u64)) ∧ RowKit.Below w1.heap.size w1 w11) := by
            have q1' : w11.ownsRow w1.heap.size 22 1 v3 (n1 + 1) ((l.take i ++ [y]).map (Value.int .u64)) := by rw [List.map_append]; exact q1
            exact ⟨q1', (HI.out.2.alloc HI.out.2.size _).grown q2 (by have := HI.out.2.size; simp; omega) fun j hj => (HOa.out.lt j (by first | exact hj | exact hj.symm)).1⟩
          clear q1 q2 q3 HNw HOa
          go_wp2_with fail
          go_round
          case rel => exact ⟨i + 1, v3, by omega, rfl, by go_num, by rw [HE2.out.1, List.length_append, Hn1.out]; exact HF, HE2.out.2⟩
          case measure => simp [intOf]; omega
        · have HIn : Hid (insL l x = l.take i ++ x :: l.drop i) := ins_at HLt.out fun z hz => by
            rw [Hy.out] at hz
            obtain rfl : y = z := by simpa using hz
            exact hyx
          obtain ⟨v1, z2, ao, c, a9, n9, cap9, z3, e1, hs, e2, k1, k2, k3, k4, f4, hF⟩ := HEx.out
          rw [← HIn.out] at hF
          have HF := hid hF
          have HE1 := hid e1
          have HE2 := hid e2
          clear HEx HX hF HI HLt HIn Hn1 e1 e2 HK H
          have k2' : (w10.alloc (.cells #[.int .u64 x] 22)).cell? ⟨B, 2, none⟩ = some _ := k2
          go_wp2_with fail
          go_region_law (first
            | (refine stepApp (by rfl) 50 (by rfl) (.tmp 47) (.tmp 49) 31 (by rfl) _ _ _ _ (by first | (simp [Act.eval]; done) | (simp [Act.eval, Act.put]; done)) (by first | (simp [Act.eval]; done) | (simp [Act.eval, Act.put]; done)) HE1.out ?_)
            | (refine stepApp (by rfl) 57 (by rfl) (.tmp 50) (.tmp 56) 31 (by rfl) _ _ _ _ (by first | (simp [Act.eval]; done) | (simp [Act.eval, Act.put]; done)) (by first | (simp [Act.eval]; done) | (simp [Act.eval, Act.put]; done)) HE2.out ?_))
          all_goals
            go_wp2_with fail
            go_ret
            exact ⟨rfl, HF⟩
      · have g4 : ¬ (i : Int) < (n : Int) := by omega
        have HIn : Hid (insL l x = l.take i ++ x :: l.drop i) := ins_at HLt.out fun z hz => by
          have := (List.getElem?_eq_some_iff.1 hz).1
          rw [Hn.out] at this
          omega
        obtain ⟨v1, z2, ao, c, a9, n9, cap9, z3, e1, hs, e2, k1, k2, k3, k4, f4, hF⟩ := HEx.out
        rw [← HIn.out] at hF
        have HF := hid hF
        have HE1 := hid e1
        have HE2 := hid e2
        clear HEx HX hF HI HLt HIn Hn1 e1 e2 HK H
        have k2' : (w10.alloc (.cells #[.int .u64 x] 22)).cell? ⟨B, 2, none⟩ = some _ := k2
        go_wp2_with fail
        go_region_law (first
          | (refine stepApp (by rfl) 50 (by rfl) (.tmp 47) (.tmp 49) 31 (by rfl) _ _ _ _ (by first | (simp [Act.eval]; done) | (simp [Act.eval, Act.put]; done)) (by first | (simp [Act.eval]; done) | (simp [Act.eval, Act.put]; done)) HE1.out ?_)
          | (refine stepApp (by rfl) 57 (by rfl) (.tmp 50) (.tmp 56) 31 (by rfl) _ _ _ _ (by first | (simp [Act.eval]; done) | (simp [Act.eval, Act.put]; done)) (by first | (simp [Act.eval]; done) | (simp [Act.eval, Act.put]; done)) HE2.out ?_))
        all_goals
          go_wp2_with fail
          go_ret
          exact ⟨rfl, HF⟩
end Go.Proofs.Ytaiojhigomdocaa
