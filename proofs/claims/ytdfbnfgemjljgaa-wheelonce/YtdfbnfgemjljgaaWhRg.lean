/-
  The document's wheel: StopAll, Due.
-/
import Derived.Test.YtdfbnfgemjljgaaWhRf
namespace Go.Proofs.Ytdfbnfgemjljgaa
open Go.RowKit
set_option linter.unusedVariables false
set_option maxRecDepth 1000000

theorem allT_snoc (lb : Int) (l : List Tm) (t : Tm) : allT lb (l ++ [t]) = allT lb l ++ (if t.label = lb then [] else [t]) := by
  unfold allT
  rw [List.filter_append]
  congr 1
  by_cases h : t.label = lb <;> simp [h]
theorem allT_len (lb : Int) (l : List Tm) : (allT lb l).length ≤ l.length := List.length_filter_le _ _
set_option maxHeartbeats 8000000 in
theorem rstopall_any {W : World} {B : Nat} {T last : Int} {a : Option Addr} {len cap : Nat} {L : List Tm} (h : RwAt W B T last a len cap L) (lb : Int) :
    Calls Try.prog 11 #[.pointer (some ⟨B, 0, none⟩), .int .u64 lb] W fun e w' => e = .returned (.int .i64 ((L.length : Int) - (allT lb L).length)) ∧ Hid (RwO W B T last (allT lb L) w') := by
  have H := hid fun (W' : World) (hb : Below W.heap.size W W') => h.below hb
  have hrm := h.lst.room
  have hms := h.lst.most
  have hfw := h.few
  have HL := hid h.lst.size
  obtain ⟨j0, ji, jz0, jz1, jz2⟩ := Go.info_parts Try.infoRt
  obtain ⟨C, HC⟩ : ∃ C, Hid ((L.length : Int) - (allT lb L).length = C) := ⟨_, rfl⟩
  rw [HC.out]
  clear h
  go_enter Try.func11, Try.ntmps11
  go_wp2_with fail
  go_loopw [5, 6] (fun o z W' => ∃ (i : Nat) (v : Value), i ≤ len ∧ z = .int .i64 i ∧ o = v ∧ Hid (W'.ownsRow W.heap.size 49 4 v (allT lb (L.take i)).length (flatT (allT lb (L.take i))) ∧ Below W.heap.size W W')) (fun _ z _ => len - (intOf z).toNat)
  case atStart => exact ⟨0, _, Nat.zero_le _, rfl, rfl, World.ownsRow_nil _ _ _ _, Below.refl _ _⟩
  case round =>
  obtain ⟨i, v, hi, rfl, hv, HR⟩ := hrel
  have hv' := hv.symm
  subst hv'
  rename World => wr
  obtain ⟨c0, c1, c2⟩ := (H.out wr HR.out.2).cells
  by_cases hin : i < len
  · have g1 : (i : Int) < (len : Int) := by omega
    obtain ⟨b0, off, rfl, hc⟩ := (H.out wr HR.out.2).lst.cell i hin
    have hil : i < L.length := by rw [HL.out]; exact hin
    have HS := hid (take_tk hil)
    generalize tk L i = x at *
    obtain ⟨e0, e1, e2, e3⟩ := hc
    by_cases hxl : x.label = lb
    · have hxb : (x.label != lb) = false := by simp [hxl]
      have HN : Hid (allT lb (L.take (i + 1)) = allT lb (L.take i)) := by unfold Hid; rw [HS.out, allT_snoc, if_pos hxl]; simp
      clear H HL HS hil
      go_wp2_with fail
      go_round
      case rel => exact ⟨i + 1, v, by omega, by go_num, rfl, by rw [HN.out]; exact HR.out⟩
      case measure => simp [intOf]; omega
    · have hxb : (x.label != lb) = true := by simp [hxl]
      have HN : Hid (allT lb (L.take (i + 1)) = allT lb (L.take i) ++ [x]) := by unfold Hid; rw [HS.out, allT_snoc, if_neg hxl]
      have hml : (allT lb (L.take i)).length ≤ i := by have h1 := allT_len lb (L.take i); have h2 := List.length_take_le i L; omega
      obtain ⟨m, hm⟩ : ∃ m, (allT lb (L.take i)).length = m := ⟨_, rfl⟩
      have HM := hid hm
      rw [hm] at HR hml
      obtain ⟨y0, y1, y2, y3⟩ := x
      simp only at e0 e1 e2 e3
      have hOw : Hid ((wr.alloc (.cells #[.int .i64 y0, .int .i64 y1, .int .u64 y2, .int .i64 y3] 49)).ownsRow W.heap.size 49 4 v m (flatT (allT lb (L.take i))) ∧ Below W.heap.size W (wr.alloc (.cells #[.int .i64 y0, .int .i64 y1, .int .u64 y2, .int .i64 y3] 49))) := by
        have hb : Below wr.heap.size wr (wr.alloc (.cells #[.int .i64 y0, .int .i64 y1, .int .u64 y2, .int .i64 y3] 49)) := (Below.refl _ _).alloc (Nat.le_refl _) _
        exact ⟨own_below HR.out.1 hb, HR.out.2.trans (hb.mono HR.out.2.size)⟩
      have HNw := hid (World.news_of_block (heap_alloc_new wr (.cells #[.int .i64 y0, .int .i64 y1, .int .u64 y2, .int .i64 y3] 49)))
      obtain ⟨xs, Hxs⟩ : ∃ xs, Hid (flatT (allT lb (L.take i)) = xs) := ⟨_, rfl⟩
      rw [Hxs.out] at hOw
      obtain ⟨ao, co, hv2⟩ : ∃ ao co, v = .slice ao m co := by
        rcases id HR.out.1.2 with ⟨hv, h0⟩ | ⟨g, c, cur, hv, _⟩
        · exact ⟨none, 0, by rw [hv, h0]⟩
        · exact ⟨_, c, hv⟩
      subst hv2
      clear H HL HS hil HR hm
      go_wp2_with (at_builtin; refine wpList_append_own _ rfl (.tmp 27) (.tmp 35) 25 rfl W.heap.size 49 j0 (.agg #[.int .i64 0, .int .i64 0, .int .u64 0, .int .i64 0]) 4 32 Try.underlying25 ji jz0 jz1 jz2 rfl (by decide) (.slice ao m co) m _ rfl hOw.out.1 ⟨wr.heap.size, 0, none⟩ 1 1 [.int .i64 y0, .int .i64 y1, .int .u64 y2, .int .i64 y3] rfl rfl HNw.out (by simp [Value.oneCell']) (by unfold maxLen; omega) (by omega) hOw.out.2.size ?_; intro v5 w5 how5 hgr5 _)
      have HF2 : Hid (w5.ownsRow W.heap.size 49 4 v5 (allT lb (L.take (i + 1))).length (flatT (allT lb (L.take (i + 1)))) ∧ Below W.heap.size W w5) := by
        refine ⟨?_, hOw.out.2.grown hgr5 hOw.out.2.size fun g hg => (hOw.out.1.lt g hg).1⟩
        rw [HN.out, List.length_append, HM.out, flatT_app, Hxs.out]
        exact how5
      refine ⟨⟨i + 1, v5, by omega, by go_num, rfl, HF2.out⟩, ?_⟩
      simp [intOf]; omega
  · have g1 : ¬ (i : Int) < (len : Int) := by omega
    obtain rfl : i = len := by omega
    have htk : L.take i = L := List.take_of_length_le (by rw [HL.out]; exact Nat.le_refl _)
    rw [htk] at HR
    obtain ⟨m, hm⟩ : ∃ m, (allT lb L).length = m := ⟨_, rfl⟩
    have hml : m ≤ i := by rw [← hm]; have := allT_len lb L; have := HL.out; omega
    obtain rfl : (i : Int) - (m : Int) = C := by rw [← HC.out, HL.out, hm]
    rw [hm] at HR
    obtain ⟨a', cap', rfl, ht, _⟩ := TsAt.own HR.out.1
    have HF : Hid (RwO W B T last (allT lb L) (wr.setCell ⟨B, 2, none⟩ (.slice a' m cap'))) :=
      ⟨⟨a', m, cap', (H.out W (Below.refl _ _)).list HR.out.2 ht (by omega)⟩, (Fb.of HR.out.2).trans (Fb.set (F := at1 B) (p := ⟨B, 2, none⟩) rfl _) fun k hk => .inl hk⟩
    have f2 : wr.frozen? ⟨B, 2, none⟩ = false := frozen_of_row _ _ 2 _ _ (H.out wr HR.out.2).obj
    have hwm : IntKind.i64.wrap ((i : Int) - (m : Int)) = (i : Int) - (m : Int) := by rw [IntKind.wrap_i64]; omega
    have hrm2 := ht.room
    have hms2 := ht.most
    clear H HL HR htk hm ht HC
    go_wp2_with fail
    go_ret
    exact ⟨rfl, HF⟩
end Go.Proofs.Ytdfbnfgemjljgaa
