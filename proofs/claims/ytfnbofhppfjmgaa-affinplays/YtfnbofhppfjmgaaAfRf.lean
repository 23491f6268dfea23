/-
  The document's table: Find, Forget.
-/
import Derived.Test.YtfnbofhppfjmgaaAfRl
namespace Go.Proofs.Ytfnbofhppfjmgaa
open Go.RowKit
set_option linter.unusedVariables false
set_option maxRecDepth 1000000

theorem set_use {qs : List Bd} (hn : NdB qs) {i : Nat} (hi : i < qs.length) {s : Int} (hs : (bk qs i).ses = s) (f : Int) : qs.set i ⟨(bk qs i).ses, (bk qs i).rep, f⟩ = useB qs s f := by
  rw [bk_at hi] at hs ⊢
  unfold useB
  refine List.ext_getElem (by simp) fun j h1 h2 => ?_
  have hj : j < qs.length := by simpa using h1
  rw [List.getElem_map, List.getElem_set]
  by_cases e : i = j
  · subst e
    simp [hs]
  · rw [if_neg e, if_neg]
    intro h3
    have h4 := ses_one hn (List.getElem_mem hj) (List.getElem_mem hi) (by rw [h3, hs])
    have h5 : (qs.map Bd.ses)[i]'(by simpa using hi) = (qs.map Bd.ses)[j]'(by simpa using hj) := by simp [h4]
    exact e ((List.getElem_inj hn).1 h5)
theorem set_rep {qs : List Bd} (hn : NdB qs) {i : Nat} (hi : i < qs.length) {n : Bd} (hs : (bk qs i).ses = n.ses) : qs.set i n = repB qs n := by
  unfold repB
  refine List.ext_getElem (by simp) fun j h1 h2 => ?_
  have hj : j < qs.length := by simpa using h1
  rw [List.getElem_map, List.getElem_set]
  rw [bk_at hi] at hs
  by_cases e : i = j
  · subst e
    simp [hs]
  · rw [if_neg e, if_neg]
    intro h3
    have h4 := ses_one hn (List.getElem_mem hj) (List.getElem_mem hi) (by rw [h3, hs])
    have h5 : (qs.map Bd.ses)[i]'(by simpa using hi) = (qs.map Bd.ses)[j]'(by simpa using hj) := by simp [h4]
    exact e ((List.getElem_inj hn).1 h5)
theorem bk_lk {qs : List Bd} (hn : NdB qs) {i : Nat} (hi : i < qs.length) {s : Int} (hs : (bk qs i).ses = s) : lk qs s = some ((bk qs i).rep, (bk qs i).fin) := by rw [← hs]; exact lk_mem hn (bk_mem hi)
theorem RtB.fin {W : World} {B room : Nat} {keep T : Int} {qs : List Bd} {g n cap : Nat} (h : RtB W B room keep T (.slice (some ⟨g, 0, none⟩) n cap) qs) {k : Nat} (hk : k < qs.length) (t : Int) :
    RtB (W.setCell ⟨g, k * 3 + 2, none⟩ (.int .i64 t)) B room keep T (.slice (some ⟨g, 0, none⟩) n cap) (qs.set k ⟨(bk qs k).ses, (bk qs k).rep, t⟩) ∧ Fb (rcF B (.slice (some ⟨g, 0, none⟩) n cap)) W (W.setCell ⟨g, k * 3 + 2, none⟩ (.int .i64 t)) := by
  have hgB : g ≠ B := h.apart (b := g) rfl
  obtain ⟨g', cap', cur, hv, hg, _, _⟩ := h.isSome hk
  have hgg : g' = g ∧ n = qs.length := by cases hv; exact ⟨rfl, rfl⟩
  obtain ⟨rfl, rfl⟩ := hgg
  refine ⟨⟨?_, ?_, by rw [List.length_set]; exact h.few⟩, Fb.set (F := rcF B _) (p := ⟨g', k * 3 + 2, none⟩) (.inr rfl) _⟩
  · rw [Below.heap_setCell _ _ _ _ (by exact fun e => hgB e.symm)]; exact h.var
  · rw [List.length_set, flatB_fin qs t k hk]
    exact (World.ownsRow.stored h.own (k * 3 + 2) (.int .i64 t)).1
set_option maxHeartbeats 4000000 in
theorem rfind_any {w : World} {B room : Nat} {keep T : Int} {v : Value} {qs : List Bd} (h : RtB w B room keep T v qs) (hnd : NdB qs) (hT : 0 ≤ T ∧ T ≤ 1099511627776) (hK : 1 ≤ keep ∧ keep ≤ 4294967296) (now s : Int) :
    Calls Try.prog 11 #[.pointer (some ⟨B, 0, none⟩), .int .i64 now, .int .u64 s] w fun e w' => e = .returned (.tuple #[.int .u64 ((lk (endL (timeZ T now) qs) s).getD (0, 0)).1, .bool (lk (endL (timeZ T now) qs) s).isSome]) ∧ Hid (RtO w B room keep v (timeZ T now) (useB (endL (timeZ T now) qs) s (timeZ T now + keep)) w') := by
  have hL := rlater_any h now
  have hTb := timeZ_bd (now := now) hT
  have hnd1 : NdB (endL (timeZ T now) qs) := hnd.filter _
  clear h hnd
  generalize timeZ T now = T1 at *
  generalize endL T1 qs = L1 at *
  obtain ⟨f, hf⟩ : ∃ f, T1 + keep = f := ⟨_, rfl⟩
  have hwf : IntKind.i64.wrap (T1 + keep) = f := by rw [← hf]; exact wrap64_in (by omega) (by omega)
  rw [hf]
  have Hnd := hid hnd1
  clear hnd1 hf hTb hT hK
  go_enter Try.func11, Try.ntmps11
  go_wp2_with fail
  with_reducible refine hL.mono ?_
  rintro r w1 ⟨rfl, H1⟩
  obtain ⟨v1, h1, hf1, hv1⟩ := H1.out
  have hP := rplace_any h1 s
  have HT := hid fun (w2 : World) (q2 : List Bd) (ho : RtO w1 B room keep v1 T1 q2 w2) => RtO.trans h1 hf1 hv1 ho
  have H1b := hid h1
  clear hL H1 h1 hf1 hv1
  go_wp2_with fail
  with_reducible refine hP.mono ?_
  rintro r w2 ⟨pz, rfl, HP, rfl⟩
  clear hP
  rcases HP.out with ⟨i, rfl, hi, hs⟩ | ⟨rfl, hno⟩
  · obtain ⟨g, cv, cur, rfl, hg, rv, mv⟩ := H1b.out.isSome hi
    obtain ⟨c0, c1, c2, c3⟩ := H1b.out.cells
    obtain ⟨ca, cr, cu⟩ := H1b.out.at hi
    obtain ⟨x1, x2⟩ := H1b.out.fin hi f
    have fu : w2.frozen? ⟨g, i * 3 + 2, none⟩ = false := frozen_of_row _ _ _ _ _ hg
    obtain ⟨e0, e1, e2, e3⟩ := x1.cells
    have er : (w2.setCell ⟨g, i * 3 + 2, none⟩ (.int .i64 f)).cell? ⟨g, i * 3 + 1, none⟩ = some (.int .u64 (bk L1 i).rep) := by
      have := (x1.at (k := i) (by rw [List.length_set]; exact hi)).2.1
      rw [this]
      unfold bk
      simp [hi]
    have Hlk := hid (bk_lk Hnd.out hi hs)
    have HE : Hid (RtO w B room keep v T1 (useB L1 s f) (w2.setCell ⟨g, i * 3 + 2, none⟩ (.int .i64 f)).drew) := by
      refine HT.out _ _ ⟨_, x1.below (Below.refl _ _).drew |> fun h => by rw [set_use Hnd.out hi hs] at h; exact h, x2.drew, fun b hb => .inl hb⟩
    obtain ⟨n, hN⟩ : ∃ n, L1.length = n := ⟨_, rfl⟩
    rw [hN] at hi c3 e3 rv
    have q1 : (i : Int) < (n : Int) := by omega
    have q2 : ¬ (i : Int) < 0 := by omega
    generalize (bk L1 i).rep = yr at *
    generalize (bk L1 i).ses = ys at *
    generalize (bk L1 i).fin = yf at *
    clear HP HT H1b hg cur x1 x2 Hnd hs
    go_wp2_with fail
    go_region
    go_wp2_with fail
    go_ret2
    exact ⟨by rw [Hlk.out]; rfl, HE⟩
  · have HE := hid (HT.out _ _ ⟨_, H1b.out, Fb.refl _ _, fun b hb => .inl hb⟩)
    have Hno := hid hno
    clear HP HT H1b hno Hnd
    go_wp2_with fail
    go_ret2
    exact ⟨by rw [Hno.out]; rfl, by rw [useB_not _ Hno.out]; exact HE⟩
set_option maxHeartbeats 4000000 in
theorem rforget18_any {w : World} {B room : Nat} {keep T : Int} {v : Value} {qs0 : List Bd} (h0 : RtB w B room keep T v qs0) (now x : Int) :
    Calls Try.prog 13 #[.pointer (some ⟨B, 0, none⟩), .int .i64 now, .int .u64 x] w fun e w' => e = .returned (.int .i64 (((endL (timeZ T now) qs0).length : Int) - (forB (endL (timeZ T now) qs0) x).length)) ∧ Hid (RtO w B room keep v (timeZ T now) (forB (endL (timeZ T now) qs0) x) w') := by
  obtain ⟨j0, ji, jz0, jz1, jz2⟩ := info_parts Try.infoBi
  have hL := rlater_any h0 now
  clear h0
  generalize timeZ T now = T1 at *
  generalize endL T1 qs0 = qs at *
  unfold forB
  obtain ⟨p, hp⟩ : ∃ p : Bd → Bool, p = fun b => decide (b.rep ≠ x) := ⟨_, rfl⟩
  have HPt : Hid (∀ y : Bd, p y = true → ¬ y.rep = x) := fun y hy => by rw [hp] at hy; simpa using hy
  have HPf : Hid (∀ y : Bd, p y = false → y.rep = x) := fun y hy => by rw [hp] at hy; simpa using hy
  rw [← hp]
  obtain ⟨fr, hfr⟩ : ∃ fr : Nat → List Bd, fr = fun k => (qs.take k).filter p := ⟨_, rfl⟩
  have HE : Hid (qs.filter p = fr qs.length) := by unfold Hid; rw [hfr]; show _ = (qs.take qs.length).filter p; rw [List.take_length]
  have HF0 : Hid (fr 0 = []) := by unfold Hid; rw [hfr]; rfl
  have HFl : Hid (∀ k, (fr k).length ≤ k) := fun k => by
    rw [hfr]
    exact Nat.le_trans (List.length_filter_le _ _) (List.length_take_le _ _)
  have HY2 : Hid (∀ k, k < qs.length → p (bk qs k) = true → fr (k + 1) = fr k ++ [bk qs k]) := fun k hk hne => by rw [hfr]; exact fil_yes hk hne
  have HN2 : Hid (∀ k, k < qs.length → p (bk qs k) = false → fr (k + 1) = fr k) := fun k hk he => by rw [hfr]; exact fil_no hk he
  rw [HE.out]
  obtain ⟨n, hN⟩ : ∃ n, qs.length = n := ⟨_, rfl⟩
  rw [hN]
  go_enter Try.func13, Try.ntmps13
  go_wp2_with fail
  with_reducible refine hL.mono ?_
  rintro r w1 ⟨rfl, H1⟩
  obtain ⟨v1, h1, hf1, hv1⟩ := H1.out
  have hlf : (qs.filter p).length ≤ qs.length := List.length_filter_le _ _
  have HFx : Hid (∀ (W : World) (vo : Value), W.ownsRow w1.heap.size 62 3 vo (qs.filter p).length (flatB (qs.filter p)) → Below w1.heap.size w1 W → RtO w B room keep v T1 (qs.filter p) (W.setCell ⟨B, 3, none⟩ vo)) := fun W vo ho hb => by
    have := h1.few
    exact RtO.trans h1 hf1 hv1 (h1.list hb ho (Nat.le_refl _) (by omega))
  have HH := hid fun (W : World) (hb : Below w1.heap.size w1 W) => h1.below hb
  obtain ⟨av, cv, rfl, rv, mv⟩ := h1.isSl
  have hfew := h1.few
  rw [HE.out, hN] at HFx
  clear hfr HE h1 hp hL H1 hf1 hv1 hlf
  rw [hN] at rv HH hfew HY2 HN2
  go_wp2_with fail
  go_loopw [7, 8] (fun o i W => ∃ (k : Nat) (ao : Option Addr) (m co : Nat), k ≤ n ∧ i = .int .i64 k ∧ o = .slice ao m co ∧ m ≤ k ∧ Hid (m = (fr k).length ∧ W.ownsRow w1.heap.size 62 3 (.slice ao m co) m (flatB (fr k)) ∧ Below w1.heap.size w1 W)) (fun _ i _ => n - (intOf i).toNat)
  case atStart => exact ⟨0, none, 0, 0, Nat.zero_le _, rfl, rfl, Nat.le_refl _, by rw [HF0.out]; exact ⟨rfl, World.ownsRow_nil _ _ _ _, Below.refl _ _⟩⟩
  case round =>
  obtain ⟨k, ao, m, co, hk, rfl, rfl, hmk, HO⟩ := hrel
  rename World => wr
  clear HF0
  have hR := HH.out _ HO.out.2.2
  obtain ⟨c0, c1, c2, c3⟩ := hR.cells
  by_cases hlt : k < n
  · obtain ⟨g, cap', cur, hv, hg, _, _⟩ := hR.isSome (k := k) (by omega)
    have hav : av = some ⟨g, 0, none⟩ := by cases hv; rfl
    subst hav
    obtain ⟨ca, cr, cu⟩ := hR.at (k := k) (by omega)
    have q1 : (k : Int) < (n : Int) := by omega
    clear hR hv hg cur HH
    cases hx : p (bk qs k) with
    | false =>
      have HO2 : Hid (m = (fr (k + 1)).length ∧ wr.ownsRow w1.heap.size 62 3 (.slice ao m co) m (flatB (fr (k + 1))) ∧ Below w1.heap.size w1 wr) := by rw [HN2.out k hlt hx]; exact HO
      have hx1 := HPf.out _ hx
      clear hx HY2 HN2 HFx HO HFl HPt HPf
      generalize bk qs k = y at *
      obtain ⟨ys, yr, yf⟩ := y
      simp only at ca cr cu hx1
      rw [hx1] at cr
      go_wp2_with fail
      go_round
      case rel => exact ⟨k + 1, ao, m, co, by omega, by go_num, rfl, by omega, HO2⟩
      case measure => simp [intOf]; omega
    | true =>
      have HF2 := hid (HY2.out k hlt hx)
      have hx1 := HPt.out _ hx
      have HFin : Hid (∀ (v4 : Value) (w4 : World), w4.ownsRow w1.heap.size 62 3 v4 (m + 1) (flatB (fr k) ++ [.int .u64 (bk qs k).ses, .int .u64 (bk qs k).rep, .int .i64 (bk qs k).fin]) → Below w1.heap.size w1 w4 → ∃ a4 c4, v4 = .slice a4 (m + 1) c4 ∧ Hid (m + 1 = (fr (k + 1)).length ∧ w4.ownsRow w1.heap.size 62 3 (.slice a4 (m + 1) c4) (m + 1) (flatB (fr (k + 1))) ∧ Below w1.heap.size w1 w4)) := fun v4 w4 ho hb => by
        obtain ⟨a4, c4, rfl⟩ := own_sl18 ho
        refine ⟨a4, c4, rfl, ?_, ?_, hb⟩
        · rw [HF2.out, List.length_append, ← HO.out.1]; rfl
        · rw [HF2.out, flatB_app]; exact ho
      have HOw5 := hid HO.out.2
      clear HY2 HN2 HFx HO HF2 HFl HPt HPf
      generalize bk qs k = y at *
      obtain ⟨ys, yr, yf⟩ := y
      simp only at ca cr cu hx1 HFin
      clear hx
      have hx2 : (yr == x) = false := by simpa using hx1
      have hx3 : (yr != x) = true := by simpa using hx1
      have how := HOw5.out.1
      have HBa : Hid (∀ o : Obj, Below w1.heap.size w1 (wr.alloc o)) := fun o => HOw5.out.2.alloc HOw5.out.2.size o
      go_wp2_with (at_builtin; refine wpList_append_own _ rfl (.tmp 32) (.tmp 40) 27 rfl w1.heap.size 62 j0 (.agg #[.int .u64 0, .int .u64 0, .int .i64 0]) 3 24 Try.undBi ji jz0 jz1 jz2 rfl (by decide) (.slice ao m co) m (flatB (fr k)) rfl (how.alloc _) ⟨wr.heap.size, 0, none⟩ 1 1 [.int .u64 ys, .int .u64 yr, .int .i64 yf] rfl rfl (World.news_of_block (heap_alloc_new wr _)) (by simp [Value.oneCell']) (by unfold maxLen; omega) (by omega) (HBa.out _).size ?_; intro v4 w4 how4 hgr4 _)
      have hb4 : Below w1.heap.size w1 w4 := (HBa.out _).trans ((Below.refl _ _).grown hgr4 (HBa.out _).size fun g hg => (how.lt g hg).1)
      obtain ⟨a4, c4, rfl, HO4⟩ := HFin.out _ _ how4 hb4
      clear how how4 hgr4 hb4 HFin HOw5 HBa ca cr cu c0 c1 c2 c3
      go_wp2_with fail
      go_round
      case rel => exact ⟨k + 1, a4, m + 1, c4, by omega, by go_num, rfl, by omega, HO4⟩
      case measure => simp [intOf]; omega
  · obtain rfl : k = n := by omega
    have hm := HO.out.1
    have HPw := hid (HFx.out wr _ (by rw [← hm]; exact HO.out.2.1) HO.out.2.2)
    have Hm := hid hm
    have fB := frozen_of_row _ _ 3 _ _ hR.var
    have hwr : IntKind.i64.wrap ((k : Int) - (m : Int)) = (k : Int) - (m : Int) := wrap64_in (by omega) (by omega)
    clear hR HH HY2 HN2 HFx HO hN HFl hm HPt HPf
    go_wp2
    go_ret
    exact ⟨by rw [← Hm.out]; rfl, HPw⟩
end Go.Proofs.Ytfnbofhppfjmgaa
