/-
  The document's tree: Forget.
-/
import Derived.Test.YtdchoegaindnbaaRpPut
namespace Go.Proofs.Ytdchoegaindnbaa
open Go.RowKit
set_option linter.unusedVariables false
set_option maxRecDepth 1000000

def forR (qs : List Rk) (x : Int) : List Rk := qs.filter fun q => decide (q.rep ≠ x)
theorem forR_yes {qs : List Rk} {x : Int} {k : Nat} (hk : k < qs.length) (h : ¬ (rk qs k).rep = x) : forR (qs.take (k + 1)) x = forR (qs.take k) x ++ [rk qs k] := by
  unfold forR
  rw [rk_at hk] at h ⊢
  rw [List.take_add_one, List.filter_append, List.getElem?_eq_getElem hk]
  simp [h]
theorem forR_no {qs : List Rk} {x : Int} {k : Nat} (hk : k < qs.length) (h : (rk qs k).rep = x) : forR (qs.take (k + 1)) x = forR (qs.take k) x := by
  unfold forR
  rw [rk_at hk] at h
  rw [List.take_add_one, List.filter_append, List.getElem?_eq_getElem hk]
  simp [h]
set_option maxHeartbeats 2000000 in
theorem rforget_any {B pg sz : Nat} {tm : Int} {v : Value} {qs : List Rk} (x : Int) (w : World) (h : RtAt w B pg sz tm v qs) :
    Calls Try.prog 15 #[.pointer (some ⟨B, 0, none⟩), .int .u64 x] w fun e w' => e = .returned (.int .i64 ((qs.length : Int) - (forR qs x).length)) ∧ Hid (PutW w B pg sz tm v qs (forR qs x) w') := by
  obtain ⟨j0, ji, jz0, jz1, jz2⟩ := info_parts Try.infoMa
  obtain ⟨av, cv, rfl, rv, mv⟩ := h.isSl
  have hfew := h.few
  have HH := hid fun (W : World) (hb : Below w.heap.size w W) => h.below hb
  have HFx : Hid (∀ (W : World) (vo : Value), W.ownsRow w.heap.size 45 3 vo (forR qs x).length (flatM (forR qs x)) → Below w.heap.size w W → PutW w B pg sz tm (.slice av qs.length cv) qs (forR qs x) (W.setCell ⟨B, 3, none⟩ vo)) := fun W vo ho hb => by
    have hfl : (forR qs x).length ≤ qs.length := List.length_filter_le _ _
    obtain ⟨y1, y2, y3, y4⟩ := h.list (qs' := forR qs x) hb ho (Nat.le_refl _) (fun q hq => (h.ins q (List.mem_filter.1 hq).1).below hb) (by omega)
    exact PutW.step (W := w) (v1 := .slice av qs.length cv) (q1 := qs) (fun _ h => .inl h) (fun _ h => .inl h) (Fb.refl _ _) y1 y3 (fun b hb => .inr (y4 b hb)) fun q hq p hp => .inl ⟨q, (List.mem_filter.1 hq).1, hp⟩
  have HYe := hid fun (k : Nat) (hk : k < qs.length) (hne : ¬ (rk qs k).rep = x) => forR_yes hk hne
  have HNo := hid fun (k : Nat) (hk : k < qs.length) (he : (rk qs k).rep = x) => forR_no hk he
  obtain ⟨fr, hfr⟩ : ∃ fr : Nat → List Rk, fr = fun k => forR (qs.take k) x := ⟨_, rfl⟩
  have HE : Hid (forR qs x = fr qs.length) := by unfold Hid; rw [hfr]; show _ = forR (qs.take qs.length) x; rw [List.take_length]
  have HF0 : Hid (fr 0 = []) := by unfold Hid; rw [hfr]; rfl
  have HFl : Hid (∀ k, (fr k).length ≤ k) := fun k => by
    rw [hfr]
    exact Nat.le_trans (List.length_filter_le _ _) (List.length_take_le _ _)
  have HY2 : Hid (∀ k, k < qs.length → ¬ (rk qs k).rep = x → fr (k + 1) = fr k ++ [rk qs k]) := fun k hk hne => by rw [hfr]; exact HYe.out k hk hne
  have HN2 : Hid (∀ k, k < qs.length → (rk qs k).rep = x → fr (k + 1) = fr k) := fun k hk he => by rw [hfr]; exact HNo.out k hk he
  rw [HE.out] at HFx ⊢
  clear hfr HYe HNo HE h
  obtain ⟨n, hN⟩ : ∃ n, qs.length = n := ⟨_, rfl⟩
  rw [hN] at rv HH hfew HY2 HN2 HFx ⊢
  have HV0 := hid (Below.refl w.heap.size w)
  go_enter Try.func15, Try.ntmps15
  go_wp2_with fail
  go_loopw [5, 6] (fun o i W => ∃ (k : Nat) (ao : Option Addr) (m co : Nat), k ≤ n ∧ i = .int .i64 k ∧ o = .slice ao m co ∧ m ≤ k ∧ Hid (m = (fr k).length ∧ W.ownsRow w.heap.size 45 3 (.slice ao m co) m (flatM (fr k)) ∧ Below w.heap.size w W)) (fun _ i _ => n - (intOf i).toNat)
  case atStart => exact ⟨0, none, 0, 0, Nat.zero_le _, rfl, rfl, Nat.le_refl _, by rw [HF0.out]; exact ⟨rfl, World.ownsRow_nil _ _ _ _, HV0.out⟩⟩
  case round =>
  obtain ⟨k, ao, m, co, hk, rfl, rfl, hmk, HO⟩ := hrel
  rename World => wr
  clear HV0 HF0
  have hR := HH.out _ HO.out.2.2
  obtain ⟨c0, c1, c2, c3⟩ := hR.cells
  by_cases hlt : k < n
  · obtain ⟨g, cap', cur, hv, hg, _, _⟩ := hR.isSome (k := k) (by omega)
    have hav : av = some ⟨g, 0, none⟩ := by cases hv; rfl
    subst hav
    obtain ⟨ca, cr, cu⟩ := hR.at (k := k) (by omega)
    have q1 : (k : Int) < (n : Int) := by omega
    clear hR hv hg cur HH
    by_cases hx : (rk qs k).rep = x
    · have HO2 : Hid (m = (fr (k + 1)).length ∧ wr.ownsRow w.heap.size 45 3 (.slice ao m co) m (flatM (fr (k + 1))) ∧ Below w.heap.size w wr) := by rw [HN2.out k hlt hx]; exact HO
      rw [hx] at cr
      clear hx HY2 HN2 HFx HO HFl
      generalize rk qs k = y at *
      obtain ⟨y1, y3, yt, yr, yu⟩ := y
      simp only at ca cr cu
      generalize yt.length = y2 at *
      go_wp2_with fail
      go_round
      case rel => exact ⟨k + 1, ao, m, co, by omega, by go_num, rfl, by omega, HO2⟩
      case measure => simp [intOf]; omega
    · have HF2 := hid (HY2.out k hlt hx)
      have hx1 : ((rk qs k).rep == x) = false := by simpa using hx
      have hx2 : ((rk qs k).rep != x) = true := by simpa using hx
      have HFin : Hid (∀ (v4 : Value) (w4 : World), w4.ownsRow w.heap.size 45 3 v4 (m + 1) (flatM (fr k) ++ [.slice (rk qs k).ap (rk qs k).toks.length (rk qs k).cp, .int .u64 (rk qs k).rep, .int .i64 (rk qs k).used]) → Below w.heap.size w w4 → ∃ a4 c4, v4 = .slice a4 (m + 1) c4 ∧ Hid (m + 1 = (fr (k + 1)).length ∧ w4.ownsRow w.heap.size 45 3 (.slice a4 (m + 1) c4) (m + 1) (flatM (fr (k + 1))) ∧ Below w.heap.size w w4)) := fun v4 w4 ho hb => by
        obtain ⟨a4, c4, rfl⟩ := own_sl17 ho
        refine ⟨a4, c4, rfl, ?_, ?_, hb⟩
        · rw [HF2.out, List.length_append, ← HO.out.1]; rfl
        · rw [HF2.out, flatM_app]; exact ho
      have how := HO.out.2.1
      have HBo := hid HO.out.2.2
      clear HY2 HN2 HFx HO HF2 HFl
      generalize rk qs k = y at *
      obtain ⟨y1, y3, yt, yr, yu⟩ := y
      simp only at ca cr cu hx hx1 hx2 HFin
      generalize yt.length = y2 at *
      have HBa : Hid (∀ o : Obj, Below w.heap.size w (wr.alloc o)) := fun o => HBo.out.alloc HBo.out.size o
      go_wp2_with (at_builtin; refine wpList_append_own _ rfl (.tmp 27) (.tmp 35) 28 rfl w.heap.size 45 j0 (.agg #[.slice none 0 0, .int .u64 0, .int .i64 0]) 3 40 Try.undMa ji jz0 jz1 jz2 rfl (by decide) (.slice ao m co) m (flatM (fr k)) rfl (how.alloc _) ⟨wr.heap.size, 0, none⟩ 1 1 [.slice y1 y2 y3, .int .u64 yr, .int .i64 yu] rfl rfl (World.news_of_block (heap_alloc_new wr _)) (by simp [Value.oneCell']) (by unfold maxLen; omega) (by omega) (HBa.out _).size ?_; intro v4 w4 how4 hgr4 _)
      have hb4 : Below w.heap.size w w4 := (HBa.out _).trans ((Below.refl _ _).grown hgr4 (HBa.out _).size fun g hg => (how.lt g hg).1)
      obtain ⟨a4, c4, rfl, HO4⟩ := HFin.out _ _ how4 hb4
      clear how how4 hgr4 hb4 HFin HBo HBa ca cr cu c0 c1 c2 c3
      go_wp2_with fail
      go_round
      case rel => exact ⟨k + 1, a4, m + 1, c4, by omega, by go_num, rfl, by omega, HO4⟩
      case measure => simp [intOf]; omega
  · obtain rfl : k = n := by omega
    have hm := HO.out.1
    have HPw := hid (HFx.out wr _ (by rw [← hm]; exact HO.out.2.1) HO.out.2.2)
    have Hm := hid hm
    have fB := frozen_of_row _ _ 3 _ _ hR.var
    have hwr : IntKind.i64.wrap ((k : Int) - (m : Int)) = (k : Int) - (m : Int) := wrap64_in (by omega) (by omega)
    clear hR HH HY2 HN2 HFx HO hN HFl hm
    go_wp2
    go_ret
    exact ⟨by rw [← Hm.out]; rfl, HPw⟩
end Go.Proofs.Ytdchoegaindnbaa
