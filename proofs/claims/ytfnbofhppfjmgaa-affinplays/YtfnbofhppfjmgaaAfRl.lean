/-
  The document's table: New, later, place.
-/
import Derived.Test.YtfnbofhppfjmgaaAfRef
namespace Go.Proofs.Ytfnbofhppfjmgaa
open Go.RowKit
set_option linter.unusedVariables false
set_option maxRecDepth 1000000

theorem rnew18_no (r s : Int) (W : World) (h : r < 1 ∨ 1024 < r ∨ s < 1 ∨ 4294967296 < s) : Calls Try.prog 7 #[.int .i64 r, .int .i64 s] W fun e w' => e = .returned (.tuple #[.agg #[.int .i64 0, .int .i64 0, .int .i64 0, .slice none 0 0], .int .i64 1]) ∧ Hid (Below W.heap.size W w') := by
  have HB : Hid (∀ o : Obj, Below W.heap.size W (W.alloc o)) := fun o => (Below.refl _ _).alloc (Nat.le_refl _) o
  by_cases h1 : r < 1
  · clear h
    go_enter Try.func7, Try.ntmps7
    go_wp2
    exact bodyPost_ret (v := .tuple #[.agg #[.int .i64 0, .int .i64 0, .int .i64 0, .slice none 0 0], .int .i64 1]) (by rw [results_cell_tmp rfl]; simp [go_sem]) rfl ⟨rfl, HB.out _⟩
  by_cases h2 : 1024 < r
  · clear h
    go_enter Try.func7, Try.ntmps7
    go_wp2
    exact bodyPost_ret (v := .tuple #[.agg #[.int .i64 0, .int .i64 0, .int .i64 0, .slice none 0 0], .int .i64 1]) (by rw [results_cell_tmp rfl]; simp [go_sem]) rfl ⟨rfl, HB.out _⟩
  by_cases h3 : s < 1
  · clear h
    go_enter Try.func7, Try.ntmps7
    go_wp2
    exact bodyPost_ret (v := .tuple #[.agg #[.int .i64 0, .int .i64 0, .int .i64 0, .slice none 0 0], .int .i64 1]) (by rw [results_cell_tmp rfl]; simp [go_sem]) rfl ⟨rfl, HB.out _⟩
  by_cases h4 : 4294967296 < s
  · clear h
    go_enter Try.func7, Try.ntmps7
    go_wp2
    exact bodyPost_ret (v := .tuple #[.agg #[.int .i64 0, .int .i64 0, .int .i64 0, .slice none 0 0], .int .i64 1]) (by rw [results_cell_tmp rfl]; simp [go_sem]) rfl ⟨rfl, HB.out _⟩
  omega
theorem rnew18_yes (r : Nat) (s : Int) (W : World) (hr : 1 ≤ r ∧ r ≤ 1024) (hs : 1 ≤ s ∧ s ≤ 4294967296) : Calls Try.prog 7 #[.int .i64 r, .int .i64 s] W fun e w' => e = .returned (.tuple #[.agg #[.int .i64 r, .int .i64 s, .int .i64 0, .slice none 0 0], .int .i64 0]) ∧ Hid (Below W.heap.size W w') := by
  have HB : Hid (∀ o : Obj, Below W.heap.size W (W.alloc o)) := fun o => (Below.refl _ _).alloc (Nat.le_refl _) o
  have h1 : ¬ (r : Int) < 1 := by omega
  have h2 : ¬ (1024 : Int) < (r : Int) := by omega
  have h3 : ¬ s < 1 := by omega
  have h4 : ¬ (4294967296 : Int) < s := by omega
  have k1 : r < 1025 := by omega
  have k2 : ¬ 1024 < r := by omega
  have k3 : ¬ r = 0 := by omega
  clear hr hs
  go_enter Try.func7, Try.ntmps7
  go_wp2
  exact bodyPost_ret (v := .tuple #[.agg #[.int .i64 r, .int .i64 s, .int .i64 0, .slice none 0 0], .int .i64 0]) (by rw [results_cell_tmp rfl]; simp [go_sem]) rfl ⟨rfl, HB.out _⟩
/-- Where a session stands. -/
def PlcP (L : List Bd) (s pz : Int) : Prop := (∃ i : Nat, pz = i ∧ i < L.length ∧ (bk L i).ses = s) ∨ (pz = -1 ∧ lk L s = none)
theorem rplace_any {w : World} {B room : Nat} {keep T : Int} {v : Value} {qs : List Bd} (h : RtB w B room keep T v qs) (s : Int) :
    Calls Try.prog 22 #[.pointer (some ⟨B, 0, none⟩), .int .u64 s] w fun e w' => ∃ pz, e = .returned (.int .i64 pz) ∧ Hid (PlcP qs s pz) ∧ w' = w := by
  obtain ⟨av, cv, rfl, rv, mv⟩ := h.isSl
  have hfew := h.few
  have HH := hid h
  have HNo : Hid ((∀ j, j < qs.length → ¬ (bk qs j).ses = s) → lk qs s = none) := fun hj => lk_none.2 fun b hb e => by
    obtain ⟨i, hi, rfl⟩ := List.mem_iff_getElem.1 hb
    exact hj i hi (by rw [bk_at hi]; exact e)
  obtain ⟨c0, c1, c2, c3⟩ := h.cells
  clear h
  obtain ⟨n, hN⟩ : ∃ n, qs.length = n := ⟨_, rfl⟩
  rw [hN] at rv HH HNo hfew c3
  go_enter Try.func22, Try.ntmps22
  go_wp2_with fail
  go_loopw [5] (fun i W => ∃ k : Nat, k ≤ n ∧ i = .int .i64 k ∧ Hid (∀ j, j < k → ¬ (bk qs j).ses = s) ∧ Hid (W = w)) (fun i _ => n - (intOf i).toNat)
  case atStart => exact ⟨0, Nat.zero_le _, rfl, fun j hj => absurd hj (by omega), rfl⟩
  case round =>
  obtain ⟨k, hk, rfl, HJ, HW⟩ := hrel
  rename World => wr
  have hW := HW.out
  subst hW
  by_cases hlt : k < n
  · obtain ⟨g, cap', cur, hv, hg, _, _⟩ := HH.out.isSome (k := k) (by omega)
    have hav : av = some ⟨g, 0, none⟩ := by cases hv; rfl
    subst hav
    obtain ⟨ca, cr, cu⟩ := HH.out.at (k := k) (by omega)
    have q1 : (k : Int) < (n : Int) := by omega
    by_cases he : (bk qs k).ses = s
    · have HP : Hid (PlcP qs s (k : Int)) := .inl ⟨k, rfl, by omega, he⟩
      rw [he] at ca
      clear he HNo HJ HH hv hg cur cr cu hN
      go_wp2
      go_ret
      exact ⟨_, rfl, HP, rfl⟩
    · have HJ2 : Hid (∀ j, j < k + 1 → ¬ (bk qs j).ses = s) := fun j hj => by
        rcases (by omega : j < k ∨ j = k) with h' | rfl
        · exact HJ.out j h'
        · exact he
      have he1 : ((bk qs k).ses == s) = false := by simpa using he
      clear HNo HJ HH hv hg cur cr cu hN
      generalize (bk qs k).ses = y at *
      go_wp2_with fail
      go_round
      case rel => exact ⟨k + 1, by omega, by go_num, HJ2, trivial⟩
      case measure => simp [intOf]; omega
  · obtain rfl : k = n := by omega
    have HP : Hid (PlcP qs s (-1)) := .inr ⟨rfl, HNo.out HJ.out⟩
    clear HNo HJ HH
    go_wp2
    go_ret
    exact ⟨_, rfl, HP, rfl⟩
/-- A filter, one more. -/
theorem fil_yes {qs : List Bd} {p : Bd → Bool} {k : Nat} (hk : k < qs.length) (h : p (bk qs k) = true) : (qs.take (k + 1)).filter p = (qs.take k).filter p ++ [bk qs k] := by
  rw [bk_at hk] at h ⊢
  rw [List.take_add_one, List.filter_append, List.getElem?_eq_getElem hk]
  simp [h]
theorem fil_no {qs : List Bd} {p : Bd → Bool} {k : Nat} (hk : k < qs.length) (h : p (bk qs k) = false) : (qs.take (k + 1)).filter p = (qs.take k).filter p := by
  rw [bk_at hk] at h
  rw [List.take_add_one, List.filter_append, List.getElem?_eq_getElem hk]
  simp [h]
set_option maxHeartbeats 4000000 in
theorem rlater_any {w : World} {B room : Nat} {keep T : Int} {v : Value} {qs : List Bd} (h : RtB w B room keep T v qs) (now : Int) :
    Calls Try.prog 21 #[.pointer (some ⟨B, 0, none⟩), .int .i64 now] w fun e w' => e = .returned (.tuple #[]) ∧ Hid (RtO w B room keep v (timeZ T now) (endL (timeZ T now) qs) w') := by
  obtain ⟨j0, ji, jz0, jz1, jz2⟩ := info_parts Try.infoBi
  obtain ⟨a0, a1, a2, a3⟩ := h.cells
  have fT := frozen_of_row _ _ 2 _ _ h.var
  obtain ⟨T1, HT1⟩ : ∃ T1, Hid (timeZ T now = T1) := ⟨_, rfl⟩
  rw [HT1.out]
  have key : ∀ w1, RtB w1 B room keep T1 v qs → Fb (rcF B v) w w1 → ∀ (W : World) (vo : Value), W.ownsRow w1.heap.size 62 3 vo (endL T1 qs).length (flatB (endL T1 qs)) → Below w1.heap.size w1 W → RtO w B room keep v T1 (endL T1 qs) (W.setCell ⟨B, 3, none⟩ vo) := fun w1 h1 hf W vo ho hb => by
    have := h1.few
    have := endL_len T1 qs
    exact RtO.trans h1 hf (fun b hb => .inl hb) (h1.list hb ho (Nat.le_refl _) (by omega))
  obtain ⟨av, cv, hvv, rv, mv⟩ := h.isSl
  have hfew := h.few
  by_cases hg : T < now ∧ now ≤ 1099511627776
  · have e1 : T1 = now := by rw [← HT1.out]; unfold timeZ; rw [if_pos hg]
    subst e1
    obtain ⟨g1, g2⟩ := hg
    obtain ⟨w1, hw1⟩ : ∃ w1, w1 = w.setCell ⟨B, 2, none⟩ (.int .i64 T1) := ⟨_, rfl⟩
    obtain ⟨h1, hf1⟩ := h.time T1
    rw [← hw1] at h1 hf1
    have g3 : decide (T < T1) = true := decide_eq_true g1
    have g4 : decide (T1 ≤ 1099511627776) = true := decide_eq_true g2
    have HH := hid fun (W : World) (hb : Below w1.heap.size w1 W) => h1.below hb
    have HFx := hid (key w1 h1 (by first | exact hf1 | (rw [hw1]; exact hf1)))
    unfold endL at HFx ⊢
    obtain ⟨p, hp⟩ : ∃ p : Bd → Bool, p = fun b => decide (T1 < b.fin) := ⟨_, rfl⟩
    have HPt : Hid (∀ y : Bd, p y = true → T1 < y.fin) := fun y hy => by rw [hp] at hy; simpa using hy
    have HPf : Hid (∀ y : Bd, p y = false → ¬ T1 < y.fin) := fun y hy => by rw [hp] at hy; simpa using hy
    rw [← hp] at HFx ⊢
    obtain ⟨fr, hfr⟩ : ∃ fr : Nat → List Bd, fr = fun k => (qs.take k).filter p := ⟨_, rfl⟩
    have HE : Hid (qs.filter p = fr qs.length) := by unfold Hid; rw [hfr]; show _ = (qs.take qs.length).filter p; rw [List.take_length]
    have HF0 : Hid (fr 0 = []) := by unfold Hid; rw [hfr]; rfl
    have HFl : Hid (∀ k, (fr k).length ≤ k) := fun k => by
      rw [hfr]
      exact Nat.le_trans (List.length_filter_le _ _) (List.length_take_le _ _)
    have HY2 : Hid (∀ k, k < qs.length → p (bk qs k) = true → fr (k + 1) = fr k ++ [bk qs k]) := fun k hk hne => by rw [hfr]; exact fil_yes hk hne
    have HN2 : Hid (∀ k, k < qs.length → p (bk qs k) = false → fr (k + 1) = fr k) := fun k hk he => by rw [hfr]; exact fil_no hk he
    rw [HE.out] at HFx ⊢
    clear hfr HE h1 hp h key hf1
    subst hvv
    obtain ⟨n, hN⟩ : ∃ n, qs.length = n := ⟨_, rfl⟩
    rw [hN] at rv HH hfew HY2 HN2 HFx a3 ⊢
    go_enter Try.func21, Try.ntmps21
    go_wp2_with fail
    rw [← hw1]
    clear hw1 a0 a1 a2 a3 fT
    go_loopw [4, 5] (fun o i W => ∃ (k : Nat) (ao : Option Addr) (m co : Nat), k ≤ n ∧ i = .int .i64 k ∧ o = .slice ao m co ∧ m ≤ k ∧ Hid (m = (fr k).length ∧ W.ownsRow w1.heap.size 62 3 (.slice ao m co) m (flatB (fr k)) ∧ Below w1.heap.size w1 W)) (fun _ i _ => n - (intOf i).toNat)
    case atStart => exact ⟨0, none, 0, 0, Nat.zero_le _, rfl, rfl, Nat.le_refl _, by rw [HF0.out]; exact ⟨rfl, World.ownsRow_nil _ _ _ _, Below.refl _ _⟩⟩
    case round =>
    obtain ⟨k, ao, m, co, hk, rfl, rfl, hmk, HO⟩ := hrel
    rename World => wr
    clear HF0
    have hR := HH.out _ HO.out.2.2
    obtain ⟨c0, c1, c2, c3⟩ := hR.cells
    by_cases hlt : k < n
    · obtain ⟨g, cap', cur, hv, hg, _, _⟩ := hR.isSome (k := k) (by omega)
      have hav : av = some ⟨g, 0, none⟩ := by cases hv; rfl
      subst hav
      obtain ⟨ca, cr, cu⟩ := hR.at (k := k) (by omega)
      have q1 : (k : Int) < (n : Int) := by omega
      have HR := hid hR
      clear hR hv hg cur HH
      cases hx : p (bk qs k) with
      | false =>
        have HO2 : Hid (∀ nq, m = (fr (k + 1)).length ∧ (wr.drewN nq).ownsRow w1.heap.size 62 3 (.slice ao m co) m (flatB (fr (k + 1))) ∧ Below w1.heap.size w1 (wr.drewN nq)) := fun nq => by rw [HN2.out k hlt hx]; exact ⟨HO.out.1, own_below HO.out.2.1 ⟨rfl, rfl, rfl, Nat.le_refl _, fun _ _ => rfl⟩, HO.out.2.2.os, HO.out.2.2.tape, HO.out.2.2.output, HO.out.2.2.size, HO.out.2.2.block⟩
        have hx1 := HPf.out _ hx
        clear hx HY2 HN2 HFx HO HFl HR HPt HPf
        generalize bk qs k = y at *
        obtain ⟨ys, yr, yf⟩ := y
        simp only at ca cr cu hx1
        have hx2 : decide (T1 < yf) = false := decide_eq_false (by omega)
        go_wp2_with fail
        go_quiet (fail)
        go_wp2_with fail
        go_round
        case rel => exact ⟨k + 1, ao, m, co, by omega, by go_num, rfl, by omega, HO2.out _⟩
        case measure => simp [intOf]; omega
      | true =>
        have HF2 := hid (HY2.out k hlt hx)
        have hx1 := HPt.out _ hx
        have HFin : Hid (∀ (v4 : Value) (w4 : World), w4.ownsRow w1.heap.size 62 3 v4 (m + 1) (flatB (fr k) ++ [.int .u64 (bk qs k).ses, .int .u64 (bk qs k).rep, .int .i64 (bk qs k).fin]) → Below w1.heap.size w1 w4 → ∃ a4 c4, v4 = .slice a4 (m + 1) c4 ∧ Hid (m + 1 = (fr (k + 1)).length ∧ w4.ownsRow w1.heap.size 62 3 (.slice a4 (m + 1) c4) (m + 1) (flatB (fr (k + 1))) ∧ Below w1.heap.size w1 w4)) := fun v4 w4 ho hb => by
          obtain ⟨a4, c4, rfl⟩ := own_sl18 ho
          refine ⟨a4, c4, rfl, ?_, ?_, hb⟩
          · rw [HF2.out, List.length_append, ← HO.out.1]; rfl
          · rw [HF2.out, flatB_app]; exact ho
        have HOw := hid HO.out.2
        clear HY2 HN2 HFx HO HF2 HFl HPt HPf
        generalize bk qs k = y at *
        obtain ⟨ys, yr, yf⟩ := y
        simp only at ca cr cu hx1 HFin
        clear hx
        have hx2 : decide (T1 < yf) = true := decide_eq_true hx1
        go_wp2_with fail
        go_quiet (fail)
        have hb5 : Below wr.heap.size wr (wr.drewN nq) := ⟨rfl, rfl, rfl, Nat.le_refl _, fun _ _ => rfl⟩
        have hR5 := HR.out.below hb5
        obtain ⟨c0, c1, c2, c3⟩ := hR5.cells
        have ca : (wr.drewN nq).cell? ⟨g, k * 3, none⟩ = some (.int .u64 ys) := ca
        have cr : (wr.drewN nq).cell? ⟨g, k * 3 + 1, none⟩ = some (.int .u64 yr) := cr
        have cu : (wr.drewN nq).cell? ⟨g, k * 3 + 2, none⟩ = some (.int .i64 yf) := cu
        have HOw5 : Hid ((wr.drewN nq).ownsRow w1.heap.size 62 3 (.slice ao m co) m (flatB (fr k)) ∧ Below w1.heap.size w1 (wr.drewN nq)) := ⟨own_below HOw.out.1 hb5, HOw.out.2.trans (hb5.mono HOw.out.2.size)⟩
        clear HOw hb5 hR5 HR
        generalize wr.drewN nq = wr at *
        rename World => wr
        have how := HOw5.out.1
        have HBa : Hid (∀ o : Obj, Below w1.heap.size w1 (wr.alloc o)) := fun o => HOw5.out.2.alloc HOw5.out.2.size o
        go_wp2_with (at_builtin; refine wpList_append_own _ rfl (.tmp 42) (.tmp 50) 27 rfl w1.heap.size 62 j0 (.agg #[.int .u64 0, .int .u64 0, .int .i64 0]) 3 24 Try.undBi ji jz0 jz1 jz2 rfl (by decide) (.slice ao m co) m (flatB (fr k)) rfl (how.alloc _) ⟨wr.heap.size, 0, none⟩ 1 1 [.int .u64 ys, .int .u64 yr, .int .i64 yf] rfl rfl (World.news_of_block (heap_alloc_new wr _)) (by simp [Value.oneCell']) (by unfold maxLen; omega) (by omega) (HBa.out _).size ?_; intro v4 w4 how4 hgr4 _)
        have hb4 : Below w1.heap.size w1 w4 := (HBa.out _).trans ((Below.refl _ _).grown hgr4 (HBa.out _).size fun g hg => (how.lt g hg).1)
        obtain ⟨a4, c4, rfl, HO4⟩ := HFin.out _ _ how4 hb4
        clear how how4 hgr4 hb4 HFin HOw5 HBa ca cr cu c0 c1 c2 c3
        go_wp2_with fail
        go_round
        case rel => exact ⟨k + 1, a4, m + 1, c4, by omega, by go_num, rfl, by omega, HO4⟩
        case measure => simp [intOf]; omega
    · obtain rfl : k = n := by omega
      have hm := HO.out.1
      have HPw := hid (HFx.out wr _ (by rw [← hm]; exact HO.out.2.1) HO.out.2.2)
      have Hm := hid hm
      have fB := frozen_of_row _ _ 3 _ _ hR.var
      clear hR HH HY2 HN2 HFx HO hN HFl hm HPt HPf
      go_wp2
      go_end0
      exact ⟨rfl, HPw⟩
  · have e1 : T1 = T := by rw [← HT1.out]; unfold timeZ; rw [if_neg hg]
    subst e1
    have g3 : now ≤ T1 ∨ (T1 < now ∧ ¬ now ≤ 1099511627776) := by omega
    obtain ⟨w1, hw1⟩ : ∃ w1, w1 = w := ⟨_, rfl⟩
    have h1 := h
    have hf1 := Fb.refl (rcF B v) w
    rw [← hw1] at h1
    rcases g3 with g3 | ⟨g3, g4⟩
    · skip
      have HH := hid fun (W : World) (hb : Below w1.heap.size w1 W) => h1.below hb
      have HFx := hid (key w1 h1 (by first | exact hf1 | (rw [hw1]; exact hf1)))
      unfold endL at HFx ⊢
      obtain ⟨p, hp⟩ : ∃ p : Bd → Bool, p = fun b => decide (T1 < b.fin) := ⟨_, rfl⟩
      have HPt : Hid (∀ y : Bd, p y = true → T1 < y.fin) := fun y hy => by rw [hp] at hy; simpa using hy
      have HPf : Hid (∀ y : Bd, p y = false → ¬ T1 < y.fin) := fun y hy => by rw [hp] at hy; simpa using hy
      rw [← hp] at HFx ⊢
      obtain ⟨fr, hfr⟩ : ∃ fr : Nat → List Bd, fr = fun k => (qs.take k).filter p := ⟨_, rfl⟩
      have HE : Hid (qs.filter p = fr qs.length) := by unfold Hid; rw [hfr]; show _ = (qs.take qs.length).filter p; rw [List.take_length]
      have HF0 : Hid (fr 0 = []) := by unfold Hid; rw [hfr]; rfl
      have HFl : Hid (∀ k, (fr k).length ≤ k) := fun k => by
        rw [hfr]
        exact Nat.le_trans (List.length_filter_le _ _) (List.length_take_le _ _)
      have HY2 : Hid (∀ k, k < qs.length → p (bk qs k) = true → fr (k + 1) = fr k ++ [bk qs k]) := fun k hk hne => by rw [hfr]; exact fil_yes hk hne
      have HN2 : Hid (∀ k, k < qs.length → p (bk qs k) = false → fr (k + 1) = fr k) := fun k hk he => by rw [hfr]; exact fil_no hk he
      rw [HE.out] at HFx ⊢
      clear hfr HE h1 hp h key hf1
      subst hvv
      obtain ⟨n, hN⟩ : ∃ n, qs.length = n := ⟨_, rfl⟩
      rw [hN] at rv HH hfew HY2 HN2 HFx a3 ⊢
      go_enter Try.func21, Try.ntmps21
      go_wp2_with fail
      subst hw1
      clear a0 a1 a2 a3 fT
      go_loopw [4, 5] (fun o i W => ∃ (k : Nat) (ao : Option Addr) (m co : Nat), k ≤ n ∧ i = .int .i64 k ∧ o = .slice ao m co ∧ m ≤ k ∧ Hid (m = (fr k).length ∧ W.ownsRow w1.heap.size 62 3 (.slice ao m co) m (flatB (fr k)) ∧ Below w1.heap.size w1 W)) (fun _ i _ => n - (intOf i).toNat)
      case atStart => exact ⟨0, none, 0, 0, Nat.zero_le _, rfl, rfl, Nat.le_refl _, by rw [HF0.out]; exact ⟨rfl, World.ownsRow_nil _ _ _ _, Below.refl _ _⟩⟩
      case round =>
      obtain ⟨k, ao, m, co, hk, rfl, rfl, hmk, HO⟩ := hrel
      rename World => wr
      clear HF0
      have hR := HH.out _ HO.out.2.2
      obtain ⟨c0, c1, c2, c3⟩ := hR.cells
      by_cases hlt : k < n
      · obtain ⟨g, cap', cur, hv, hg, _, _⟩ := hR.isSome (k := k) (by omega)
        have hav : av = some ⟨g, 0, none⟩ := by cases hv; rfl
        subst hav
        obtain ⟨ca, cr, cu⟩ := hR.at (k := k) (by omega)
        have q1 : (k : Int) < (n : Int) := by omega
        have HR := hid hR
        clear hR hv hg cur HH
        cases hx : p (bk qs k) with
        | false =>
          have HO2 : Hid (∀ nq, m = (fr (k + 1)).length ∧ (wr.drewN nq).ownsRow w1.heap.size 62 3 (.slice ao m co) m (flatB (fr (k + 1))) ∧ Below w1.heap.size w1 (wr.drewN nq)) := fun nq => by rw [HN2.out k hlt hx]; exact ⟨HO.out.1, own_below HO.out.2.1 ⟨rfl, rfl, rfl, Nat.le_refl _, fun _ _ => rfl⟩, HO.out.2.2.os, HO.out.2.2.tape, HO.out.2.2.output, HO.out.2.2.size, HO.out.2.2.block⟩
          have hx1 := HPf.out _ hx
          clear hx HY2 HN2 HFx HO HFl HR HPt HPf
          generalize bk qs k = y at *
          obtain ⟨ys, yr, yf⟩ := y
          simp only at ca cr cu hx1
          have hx2 : decide (T1 < yf) = false := decide_eq_false (by omega)
          go_wp2_with fail
          go_quiet (fail)
          go_wp2_with fail
          go_round
          case rel => exact ⟨k + 1, ao, m, co, by omega, by go_num, rfl, by omega, HO2.out _⟩
          case measure => simp [intOf]; omega
        | true =>
          have HF2 := hid (HY2.out k hlt hx)
          have hx1 := HPt.out _ hx
          have HFin : Hid (∀ (v4 : Value) (w4 : World), w4.ownsRow w1.heap.size 62 3 v4 (m + 1) (flatB (fr k) ++ [.int .u64 (bk qs k).ses, .int .u64 (bk qs k).rep, .int .i64 (bk qs k).fin]) → Below w1.heap.size w1 w4 → ∃ a4 c4, v4 = .slice a4 (m + 1) c4 ∧ Hid (m + 1 = (fr (k + 1)).length ∧ w4.ownsRow w1.heap.size 62 3 (.slice a4 (m + 1) c4) (m + 1) (flatB (fr (k + 1))) ∧ Below w1.heap.size w1 w4)) := fun v4 w4 ho hb => by
            obtain ⟨a4, c4, rfl⟩ := own_sl18 ho
            refine ⟨a4, c4, rfl, ?_, ?_, hb⟩
            · rw [HF2.out, List.length_append, ← HO.out.1]; rfl
            · rw [HF2.out, flatB_app]; exact ho
          have HOw := hid HO.out.2
          clear HY2 HN2 HFx HO HF2 HFl HPt HPf
          generalize bk qs k = y at *
          obtain ⟨ys, yr, yf⟩ := y
          simp only at ca cr cu hx1 HFin
          clear hx
          have hx2 : decide (T1 < yf) = true := decide_eq_true hx1
          go_wp2_with fail
          go_quiet (fail)
          have hb5 : Below wr.heap.size wr (wr.drewN nq) := ⟨rfl, rfl, rfl, Nat.le_refl _, fun _ _ => rfl⟩
          have hR5 := HR.out.below hb5
          obtain ⟨c0, c1, c2, c3⟩ := hR5.cells
          have ca : (wr.drewN nq).cell? ⟨g, k * 3, none⟩ = some (.int .u64 ys) := ca
          have cr : (wr.drewN nq).cell? ⟨g, k * 3 + 1, none⟩ = some (.int .u64 yr) := cr
          have cu : (wr.drewN nq).cell? ⟨g, k * 3 + 2, none⟩ = some (.int .i64 yf) := cu
          have HOw5 : Hid ((wr.drewN nq).ownsRow w1.heap.size 62 3 (.slice ao m co) m (flatB (fr k)) ∧ Below w1.heap.size w1 (wr.drewN nq)) := ⟨own_below HOw.out.1 hb5, HOw.out.2.trans (hb5.mono HOw.out.2.size)⟩
          clear HOw hb5 hR5 HR
          generalize wr.drewN nq = wr at *
          rename World => wr
          have how := HOw5.out.1
          have HBa : Hid (∀ o : Obj, Below w1.heap.size w1 (wr.alloc o)) := fun o => HOw5.out.2.alloc HOw5.out.2.size o
          go_wp2_with (at_builtin; refine wpList_append_own _ rfl (.tmp 42) (.tmp 50) 27 rfl w1.heap.size 62 j0 (.agg #[.int .u64 0, .int .u64 0, .int .i64 0]) 3 24 Try.undBi ji jz0 jz1 jz2 rfl (by decide) (.slice ao m co) m (flatB (fr k)) rfl (how.alloc _) ⟨wr.heap.size, 0, none⟩ 1 1 [.int .u64 ys, .int .u64 yr, .int .i64 yf] rfl rfl (World.news_of_block (heap_alloc_new wr _)) (by simp [Value.oneCell']) (by unfold maxLen; omega) (by omega) (HBa.out _).size ?_; intro v4 w4 how4 hgr4 _)
          have hb4 : Below w1.heap.size w1 w4 := (HBa.out _).trans ((Below.refl _ _).grown hgr4 (HBa.out _).size fun g hg => (how.lt g hg).1)
          obtain ⟨a4, c4, rfl, HO4⟩ := HFin.out _ _ how4 hb4
          clear how how4 hgr4 hb4 HFin HOw5 HBa ca cr cu c0 c1 c2 c3
          go_wp2_with fail
          go_round
          case rel => exact ⟨k + 1, a4, m + 1, c4, by omega, by go_num, rfl, by omega, HO4⟩
          case measure => simp [intOf]; omega
      · obtain rfl : k = n := by omega
        have hm := HO.out.1
        have HPw := hid (HFx.out wr _ (by rw [← hm]; exact HO.out.2.1) HO.out.2.2)
        have Hm := hid hm
        have fB := frozen_of_row _ _ 3 _ _ hR.var
        clear hR HH HY2 HN2 HFx HO hN HFl hm HPt HPf
        go_wp2
        go_end0
        exact ⟨rfl, HPw⟩
    · skip
      have HH := hid fun (W : World) (hb : Below w1.heap.size w1 W) => h1.below hb
      have HFx := hid (key w1 h1 (by first | exact hf1 | (rw [hw1]; exact hf1)))
      unfold endL at HFx ⊢
      obtain ⟨p, hp⟩ : ∃ p : Bd → Bool, p = fun b => decide (T1 < b.fin) := ⟨_, rfl⟩
      have HPt : Hid (∀ y : Bd, p y = true → T1 < y.fin) := fun y hy => by rw [hp] at hy; simpa using hy
      have HPf : Hid (∀ y : Bd, p y = false → ¬ T1 < y.fin) := fun y hy => by rw [hp] at hy; simpa using hy
      rw [← hp] at HFx ⊢
      obtain ⟨fr, hfr⟩ : ∃ fr : Nat → List Bd, fr = fun k => (qs.take k).filter p := ⟨_, rfl⟩
      have HE : Hid (qs.filter p = fr qs.length) := by unfold Hid; rw [hfr]; show _ = (qs.take qs.length).filter p; rw [List.take_length]
      have HF0 : Hid (fr 0 = []) := by unfold Hid; rw [hfr]; rfl
      have HFl : Hid (∀ k, (fr k).length ≤ k) := fun k => by
        rw [hfr]
        exact Nat.le_trans (List.length_filter_le _ _) (List.length_take_le _ _)
      have HY2 : Hid (∀ k, k < qs.length → p (bk qs k) = true → fr (k + 1) = fr k ++ [bk qs k]) := fun k hk hne => by rw [hfr]; exact fil_yes hk hne
      have HN2 : Hid (∀ k, k < qs.length → p (bk qs k) = false → fr (k + 1) = fr k) := fun k hk he => by rw [hfr]; exact fil_no hk he
      rw [HE.out] at HFx ⊢
      clear hfr HE h1 hp h key hf1
      subst hvv
      obtain ⟨n, hN⟩ : ∃ n, qs.length = n := ⟨_, rfl⟩
      rw [hN] at rv HH hfew HY2 HN2 HFx a3 ⊢
      go_enter Try.func21, Try.ntmps21
      go_wp2_with fail
      subst hw1
      clear a0 a1 a2 a3 fT
      go_loopw [4, 5] (fun o i W => ∃ (k : Nat) (ao : Option Addr) (m co : Nat), k ≤ n ∧ i = .int .i64 k ∧ o = .slice ao m co ∧ m ≤ k ∧ Hid (m = (fr k).length ∧ W.ownsRow w1.heap.size 62 3 (.slice ao m co) m (flatB (fr k)) ∧ Below w1.heap.size w1 W)) (fun _ i _ => n - (intOf i).toNat)
      case atStart => exact ⟨0, none, 0, 0, Nat.zero_le _, rfl, rfl, Nat.le_refl _, by rw [HF0.out]; exact ⟨rfl, World.ownsRow_nil _ _ _ _, Below.refl _ _⟩⟩
      case round =>
      obtain ⟨k, ao, m, co, hk, rfl, rfl, hmk, HO⟩ := hrel
      rename World => wr
      clear HF0
      have hR := HH.out _ HO.out.2.2
      obtain ⟨c0, c1, c2, c3⟩ := hR.cells
      by_cases hlt : k < n
      · obtain ⟨g, cap', cur, hv, hg, _, _⟩ := hR.isSome (k := k) (by omega)
        have hav : av = some ⟨g, 0, none⟩ := by cases hv; rfl
        subst hav
        obtain ⟨ca, cr, cu⟩ := hR.at (k := k) (by omega)
        have q1 : (k : Int) < (n : Int) := by omega
        have HR := hid hR
        clear hR hv hg cur HH
        cases hx : p (bk qs k) with
        | false =>
          have HO2 : Hid (∀ nq, m = (fr (k + 1)).length ∧ (wr.drewN nq).ownsRow w1.heap.size 62 3 (.slice ao m co) m (flatB (fr (k + 1))) ∧ Below w1.heap.size w1 (wr.drewN nq)) := fun nq => by rw [HN2.out k hlt hx]; exact ⟨HO.out.1, own_below HO.out.2.1 ⟨rfl, rfl, rfl, Nat.le_refl _, fun _ _ => rfl⟩, HO.out.2.2.os, HO.out.2.2.tape, HO.out.2.2.output, HO.out.2.2.size, HO.out.2.2.block⟩
          have hx1 := HPf.out _ hx
          clear hx HY2 HN2 HFx HO HFl HR HPt HPf
          generalize bk qs k = y at *
          obtain ⟨ys, yr, yf⟩ := y
          simp only at ca cr cu hx1
          have hx2 : decide (T1 < yf) = false := decide_eq_false (by omega)
          go_wp2_with fail
          go_quiet (fail)
          go_wp2_with fail
          go_round
          case rel => exact ⟨k + 1, ao, m, co, by omega, by go_num, rfl, by omega, HO2.out _⟩
          case measure => simp [intOf]; omega
        | true =>
          have HF2 := hid (HY2.out k hlt hx)
          have hx1 := HPt.out _ hx
          have HFin : Hid (∀ (v4 : Value) (w4 : World), w4.ownsRow w1.heap.size 62 3 v4 (m + 1) (flatB (fr k) ++ [.int .u64 (bk qs k).ses, .int .u64 (bk qs k).rep, .int .i64 (bk qs k).fin]) → Below w1.heap.size w1 w4 → ∃ a4 c4, v4 = .slice a4 (m + 1) c4 ∧ Hid (m + 1 = (fr (k + 1)).length ∧ w4.ownsRow w1.heap.size 62 3 (.slice a4 (m + 1) c4) (m + 1) (flatB (fr (k + 1))) ∧ Below w1.heap.size w1 w4)) := fun v4 w4 ho hb => by
            obtain ⟨a4, c4, rfl⟩ := own_sl18 ho
            refine ⟨a4, c4, rfl, ?_, ?_, hb⟩
            · rw [HF2.out, List.length_append, ← HO.out.1]; rfl
            · rw [HF2.out, flatB_app]; exact ho
          have HOw := hid HO.out.2
          clear HY2 HN2 HFx HO HF2 HFl HPt HPf
          generalize bk qs k = y at *
          obtain ⟨ys, yr, yf⟩ := y
          simp only at ca cr cu hx1 HFin
          clear hx
          have hx2 : decide (T1 < yf) = true := decide_eq_true hx1
          go_wp2_with fail
          go_quiet (fail)
          have hb5 : Below wr.heap.size wr (wr.drewN nq) := ⟨rfl, rfl, rfl, Nat.le_refl _, fun _ _ => rfl⟩
          have hR5 := HR.out.below hb5
          obtain ⟨c0, c1, c2, c3⟩ := hR5.cells
          have ca : (wr.drewN nq).cell? ⟨g, k * 3, none⟩ = some (.int .u64 ys) := ca
          have cr : (wr.drewN nq).cell? ⟨g, k * 3 + 1, none⟩ = some (.int .u64 yr) := cr
          have cu : (wr.drewN nq).cell? ⟨g, k * 3 + 2, none⟩ = some (.int .i64 yf) := cu
          have HOw5 : Hid ((wr.drewN nq).ownsRow w1.heap.size 62 3 (.slice ao m co) m (flatB (fr k)) ∧ Below w1.heap.size w1 (wr.drewN nq)) := ⟨own_below HOw.out.1 hb5, HOw.out.2.trans (hb5.mono HOw.out.2.size)⟩
          clear HOw hb5 hR5 HR
          generalize wr.drewN nq = wr at *
          rename World => wr
          have how := HOw5.out.1
          have HBa : Hid (∀ o : Obj, Below w1.heap.size w1 (wr.alloc o)) := fun o => HOw5.out.2.alloc HOw5.out.2.size o
          go_wp2_with (at_builtin; refine wpList_append_own _ rfl (.tmp 42) (.tmp 50) 27 rfl w1.heap.size 62 j0 (.agg #[.int .u64 0, .int .u64 0, .int .i64 0]) 3 24 Try.undBi ji jz0 jz1 jz2 rfl (by decide) (.slice ao m co) m (flatB (fr k)) rfl (how.alloc _) ⟨wr.heap.size, 0, none⟩ 1 1 [.int .u64 ys, .int .u64 yr, .int .i64 yf] rfl rfl (World.news_of_block (heap_alloc_new wr _)) (by simp [Value.oneCell']) (by unfold maxLen; omega) (by omega) (HBa.out _).size ?_; intro v4 w4 how4 hgr4 _)
          have hb4 : Below w1.heap.size w1 w4 := (HBa.out _).trans ((Below.refl _ _).grown hgr4 (HBa.out _).size fun g hg => (how.lt g hg).1)
          obtain ⟨a4, c4, rfl, HO4⟩ := HFin.out _ _ how4 hb4
          clear how how4 hgr4 hb4 HFin HOw5 HBa ca cr cu c0 c1 c2 c3
          go_wp2_with fail
          go_round
          case rel => exact ⟨k + 1, a4, m + 1, c4, by omega, by go_num, rfl, by omega, HO4⟩
          case measure => simp [intOf]; omega
      · obtain rfl : k = n := by omega
        have hm := HO.out.1
        have HPw := hid (HFx.out wr _ (by rw [← hm]; exact HO.out.2.1) HO.out.2.2)
        have Hm := hid hm
        have fB := frozen_of_row _ _ 3 _ _ hR.var
        clear hR HH HY2 HN2 HFx HO hN HFl hm HPt HPf
        go_wp2
        go_end0
        exact ⟨rfl, HPw⟩
end Go.Proofs.Ytfnbofhppfjmgaa
