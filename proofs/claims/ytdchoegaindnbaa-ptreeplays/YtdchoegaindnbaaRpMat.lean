/-
  The document's tree: Match.
-/
import Derived.Test.YtdchoegaindnbaaRpPut
import Derived.Test.YtdchoegaindnbaaRpOrd
namespace Go.Proofs.Ytdchoegaindnbaa
open Go.RowKit
set_option linter.unusedVariables false
set_option maxRecDepth 1000000

def usQ (ts : List Int) (T : Int) (q : Rk) : Rk := if begB q.toks ts then q.at T else q
/-- The first k gone through. -/
def usR (qs : List Rk) (ts : List Int) (T : Int) (k : Nat) : List Rk := (qs.take k).map (usQ ts T) ++ qs.drop k
theorem usR_0 (qs : List Rk) (ts : List Int) (T : Int) : usR qs ts T 0 = qs := by simp [usR]
theorem usR_all (qs : List Rk) (ts : List Int) (T : Int) : usR qs ts T qs.length = qs.map (usQ ts T) := by simp [usR]
theorem usR_len (qs : List Rk) (ts : List Int) (T : Int) (k : Nat) : (usR qs ts T k).length = qs.length := by simp [usR]; omega
theorem usR_rk {qs : List Rk} {ts : List Int} {T : Int} {k : Nat} (hk : k < qs.length) : rk (usR qs ts T k) k = rk qs k := by
  unfold rk usR
  rw [List.getElem?_append_right (by simp; omega), List.getElem?_drop]
  simp [Nat.min_eq_left (Nat.le_of_lt hk)]
theorem usR_succ {qs : List Rk} {ts : List Int} {T : Int} {k : Nat} (hk : k < qs.length) : usR qs ts T (k + 1) = (usR qs ts T k).set k (usQ ts T (rk qs k)) := by
  unfold usR
  rw [List.set_append_right (h := by simp; omega), List.take_add_one, List.getElem?_eq_getElem hk, List.map_append, List.append_assoc]
  congr 1
  rw [List.length_map, List.length_take, Nat.min_eq_left (Nat.le_of_lt hk), Nat.sub_self, List.drop_eq_getElem_cons hk, rk_at hk]
  rfl
theorem usR_no {qs : List Rk} {ts : List Int} {T : Int} {k : Nat} (hk : k < qs.length) (h : begB (rk qs k).toks ts = false) : usR qs ts T (k + 1) = usR qs ts T k := by
  rw [usR_succ hk]
  have e : usQ ts T (rk qs k) = (usR qs ts T k)[k]'(by rw [usR_len]; exact hk) := by
    rw [← rk_at (by rw [usR_len]; exact hk), usR_rk hk]
    unfold usQ
    rw [h]
    rfl
  rw [e]
  exact List.set_getElem_self _
theorem usR_yes {qs : List Rk} {ts : List Int} {T : Int} {k : Nat} (hk : k < qs.length) (h : begB (rk qs k).toks ts = true) : usR qs ts T (k + 1) = (usR qs ts T k).set k ((rk (usR qs ts T k) k).at T) := by
  rw [usR_succ hk, usR_rk hk]
  unfold usQ
  rw [if_pos h]
/-- Those of the first k that are beginnings. -/
def bgR (qs : List Rk) (ts : List Int) (k : Nat) : List Mk := ((qs.take k).filter fun q => begB q.toks ts).map Rk.toM
theorem bgR_yes {qs : List Rk} {ts : List Int} {k : Nat} (hk : k < qs.length) (h : begB (rk qs k).toks ts = true) : bgR qs ts (k + 1) = bgR qs ts k ++ [(rk qs k).toM] := by
  unfold bgR
  rw [rk_at hk] at h ⊢
  rw [List.take_add_one, List.getElem?_eq_getElem hk, List.filter_append, List.map_append]
  simp [h]
theorem bgR_no {qs : List Rk} {ts : List Int} {k : Nat} (hk : k < qs.length) (h : begB (rk qs k).toks ts = false) : bgR qs ts (k + 1) = bgR qs ts k := by
  unfold bgR
  rw [rk_at hk] at h
  rw [List.take_add_one, List.getElem?_eq_getElem hk, List.filter_append, List.map_append]
  simp [h]
/-- Match on its way. -/
def MtR (w : World) (B pg sz : Nat) (tn : Int) (v : Value) (b : Nat) (qs : List Rk) (ts : List Int) (k j : Nat) (K : List Int) (f : Int → Int) (W : World) : Prop :=
  RtAt W B pg sz tn v (usR qs ts tn k) ∧ Fb (rcF B v) w W ∧ UmAt W b K f ∧ K.length ≤ j ∧ LgP (bgR qs ts j) K f
theorem MtR.below {w W W' : World} {B pg sz : Nat} {tn : Int} {v : Value} {b : Nat} {qs : List Rk} {ts : List Int} {k j : Nat} {K : List Int} {f : Int → Int} (h : MtR w B pg sz tn v b qs ts k j K f W) (hb : Below W.heap.size W W') : MtR w B pg sz tn v b qs ts k j K f W' :=
  ⟨h.1.below hb, h.2.1.below hb, h.2.2.1.below hb, h.2.2.2⟩
set_option maxHeartbeats 4000000 in
theorem rmatch_any {B pg sz : Nat} {tm : Int} {v : Value} {qs : List Rk} (a : Option Addr) (nt cap : Nat) (ts : List Int) (w : World) (h : RtAt w B pg sz tm v qs) (ht : Reads .i64 w a nt cap ts) (hap : Aft nt a (rcF B v)) (hn : nt ≤ 1000) (h0 : 0 ≤ tm) (h1 : tm ≤ 100000) :
    Calls Try.prog 13 #[.pointer (some ⟨B, 0, none⟩), .slice a nt cap] w fun e w' => ∃ b, e = .returned (.map (some b)) ∧ Hid (PutW w B pg sz (tm + 1) v qs (qs.map (usQ ts (tm + 1))) w' ∧ w.heap.size ≤ b ∧ ∃ K f, UmAt w' b K f ∧ LgP (bgR qs ts qs.length) K f) := by
  obtain ⟨av, cv, rfl, rv, mv⟩ := h.isSl
  obtain ⟨t0, _, t2⟩ := h.time (tm + 1)
  have hfew := h.few
  obtain ⟨c0, c1, c2, c3⟩ := h.cells
  have fB := frozen_of_row _ _ 2 _ _ h.var
  obtain ⟨tn, htn⟩ : ∃ tn : Int, tm + 1 = tn := ⟨_, rfl⟩
  rw [htn] at t0 t2 ⊢
  have htb : 0 ≤ tn ∧ tn ≤ 100001 := by omega
  have hwt : IntKind.i64.wrap (tm + 1) = tn := by rw [htn]; exact wrap64_in (by omega) (by omega)
  have HT := hid fun (W : World) (hk : Fb (rcF B (.slice av qs.length cv)) w W) => ht.fb hk hap
  have HLt := hid fun (k : Nat) (hk : rtF B (.slice av qs.length cv) qs k) => h.lts hk
  obtain ⟨w0, hw0⟩ : ∃ w0, w0 = (w.setCell ⟨B, 2, none⟩ (.int .i64 tn)).alloc (.map #[] 0) := ⟨_, rfl⟩
  obtain ⟨b, hb⟩ : ∃ b, w.heap.size = b := ⟨_, rfl⟩
  have hsz : (w.setCell ⟨B, 2, none⟩ (.int .i64 tn)).heap.size = w.heap.size := by simp [World.setCell]
  have HS0 : Hid (MtR w B pg sz tn (.slice av qs.length cv) b qs ts 0 0 [] (fun _ => 0) w0) := by
    rw [hw0, ← hb]
    refine ⟨by rw [usR_0]; exact t0.below ((Below.refl _ _).alloc (Nat.le_refl _) _), t2.alloc _, by rw [← hsz]; exact UmAt.new _, Nat.le_refl _, LgP.nil⟩
  have HEx : Hid (∀ W K f, MtR w B pg sz tn (.slice av qs.length cv) b qs ts qs.length qs.length K f W → PutW w B pg sz tn (.slice av qs.length cv) qs (qs.map (usQ ts tn)) W ∧ w.heap.size ≤ b ∧ ∃ K f, UmAt W b K f ∧ LgP (bgR qs ts qs.length) K f) := fun W K f hm => by
    obtain ⟨a1, a2, a3, _, a5⟩ := hm
    rw [usR_all] at a1
    refine ⟨⟨_, a1, fun k hk => ?_, fun _ h => .inl h, a2⟩, by omega, K, f, a3, a5⟩
    rcases hk with hk | ⟨q, hq, p, hp, e⟩
    · exact .inl (.inl hk)
    · obtain ⟨y, hy, rfl⟩ := List.mem_map.1 hq
      refine .inl (.inr ⟨y, hy, p, ?_, e⟩)
      rw [← hp]
      unfold usQ
      split <;> rfl
  have HNb : Hid (∀ k, ¬ rtF B (.slice av qs.length cv) (usR qs ts tn k) b) := fun k hk => by
    have : rtF B (.slice av qs.length cv) qs b := by
      rcases hk with hk | ⟨q, hq, p, hp, e⟩
      · exact .inl hk
      · unfold usR at hq
        rcases List.mem_append.1 hq with hq | hq
        · obtain ⟨y, hy, rfl⟩ := List.mem_map.1 hq
          refine .inr ⟨y, List.mem_of_mem_take hy, p, ?_, e⟩
          rw [← hp]
          unfold usQ
          split <;> rfl
        · exact .inr ⟨q, List.mem_of_mem_drop hq, p, hp, e⟩
    have := HLt.out b this
    omega
  clear h ht hap t0 t2 HLt hsz
  obtain ⟨n, hN⟩ : ∃ n, qs.length = n := ⟨_, rfl⟩
  rw [hN] at rv hfew HS0 HEx HT HNb c3
  have hmm := @run_makeMap Try.prog
  go_enter Try.func13, Try.ntmps13
  go_wp2_with fail
  try rw [htn]
  try rw [← hw0]
  clear hw0 c0 c1 c2 c3 fB hmm
  go_loopw [6] (fun i W => ∃ (k : Nat) (K : List Int) (f : Int → Int), k ≤ n ∧ i = .int .i64 k ∧ Hid (MtR w B pg sz tn (.slice av n cv) b qs ts k k K f W)) (fun i _ => n - (intOf i).toNat)
  case atStart => exact ⟨0, _, _, Nat.zero_le _, rfl, HS0⟩
  case round =>
  obtain ⟨k, K, f, hk, rfl, HM⟩ := hrel
  rename World => wr
  clear HS0
  obtain ⟨c0, c1, c2, c3⟩ := HM.out.1.cells
  by_cases hlt : k < n
  · have hlU : k < (usR qs ts tn k).length := by rw [usR_len]; omega
    have hlq : k < qs.length := by omega
    obtain ⟨g, cap', cur, hv, hg, _, _⟩ := HM.out.1.isSome hlU
    have hav : av = some ⟨g, 0, none⟩ := by cases hv; rfl
    subst hav
    obtain ⟨ca, cr, cu⟩ := HM.out.1.at hlU
    have hin := HM.out.1.ins _ (rk_mem hlU)
    rw [usR_rk hlq] at ca cr hin
    have q1 : (k : Int) < (n : Int) := by omega
    have HB := hid (rbegins_any _ _ _ _ a nt cap ts wr hin.rd (HT.out _ HM.out.2.1) hin.short)
    have HIn := hid (And.intro hin.short hin.rep)
    clear hin hv hg cur HT
    by_cases hbb : begB (rk qs k).toks ts = true
    · rw [hbb] at HB
      have HY := hid (And.intro (usR_yes (T := tn) hlq hbb) (bgR_yes hlq hbb))
      have HRk := hid (usR_rk (ts := ts) (T := tn) hlq)
      obtain ⟨y, Hy⟩ : ∃ y, Hid (rk qs k = y) := ⟨_, rfl⟩
      rw [Hy.out] at ca cr HB HIn HY HRk
      clear hbb
      obtain ⟨y1, y3, yt, yr, yu⟩ := y
      simp only at ca cr HB HIn
      obtain ⟨y2, hy2⟩ : ∃ y2, yt.length = y2 := ⟨_, rfl⟩
      rw [hy2] at ca HB
      go_wp2_with fail
      refine HB.out.mono ?_
      rintro e w2 ⟨rfl, hb2⟩
      have HM2 := hid (HM.out.below hb2)
      clear HM hb2 HB c0 c1 c2 c3 ca cr cu
      obtain ⟨x1, _, x3⟩ := HM2.out.1.use hlU tn
      obtain ⟨c0, c1, c2, c3⟩ := HM2.out.1.cells
      obtain ⟨g', cap'', cur, hv, hg, _, _⟩ := HM2.out.1.isSome hlU
      have hgg : g = g' := by cases hv; rfl
      subst hgg
      have cu := (HM2.out.1.at hlU).2.2
      have fu : w2.frozen? ⟨g, k * 3 + 2, none⟩ = false := frozen_of_row _ _ _ _ _ hg
      have HM3 : Hid (MtR w B pg sz tn (.slice (some ⟨g, 0, none⟩) n cv) b qs ts (k + 1) k K f (w2.setCell ⟨g, k * 3 + 2, none⟩ (.int .i64 tn))) := by
        refine ⟨by rw [HY.out.1]; exact x1, HM2.out.2.1.trans x3 fun x hx => .inl hx, HM2.out.2.2.1.same (Below.heap_setCell _ _ _ _ ?_), HM2.out.2.2.2⟩
        intro e
        exact HNb.out k (.inl (.inr (by rw [show b = g from e]; rfl)))
      clear hv hg cur x1 x3
      go_wp2_with fail
      go_cut [6] (fun i wx => i = .int .i64 (k : Int) ∧ Hid (MtR w B pg sz tn (.slice (some ⟨g, 0, none⟩) n cv) b qs ts (k + 1) k K f wx))
      case first =>
        clear HM2
        go_region
        go_wp2_with fail
        go_meet
        exact ⟨rfl, HM3.out.below (Below.refl _ _).drew⟩
      case rest =>
      obtain ⟨rfl, HMc⟩ := hcut
      clear HM2 HM3 c0 c1 c2 c3 cu fu
      obtain ⟨c0, c1, c2, c3⟩ := HMc.out.1.cells
      have hlU2 : k < (usR qs ts tn (k + 1)).length := by rw [usR_len]; omega
      obtain ⟨ca, cr, cu⟩ := HMc.out.1.at hlU2
      have hrk2 : rk (usR qs ts tn (k + 1)) k = Rk.at ⟨y1, y3, yt, yr, yu⟩ tn := by
        rw [HY.out.1, HRk.out]
        unfold rk
        rw [List.getElem?_set_self hlU]
        rfl
      rw [hrk2] at ca cr
      simp only [Rk.at] at ca cr
      rw [hy2] at ca
      clear hrk2 cu
      have lk := HMc.out.2.2.1.look HIn.out.2
      have HMd := hid (HMc.out.below (Below.refl _ _).drew)
      have lkd := HMd.out.2.2.1.look HIn.out.2
      have HStep : Hid (∀ (W W' : World), MtR w B pg sz tn (.slice (some ⟨g, 0, none⟩) n cv) b qs ts (k + 1) k K f W → Fb (at1 b) W W' → UmAt W' b (if yr ∈ K then K else yr :: K) (fun y => if y = yr then max (f yr) (yt.length : Int) else f y) → MtR w B pg sz tn (.slice (some ⟨g, 0, none⟩) n cv) b qs ts (k + 1) (k + 1) (if yr ∈ K then K else yr :: K) (fun y => if y = yr then max (f yr) (yt.length : Int) else f y) W') := fun W W' hm hf hu => by
        refine ⟨hm.1.same fun i hi2 => hf.block i (hm.1.lts hi2) fun e => HNb.out (k + 1) (by rw [← show i = b from e]; exact hi2), hm.2.1.trans hf fun i hi2 => .inr (by rw [show i = b from hi2]; omega), hu, ?_, ?_⟩
        · have := hm.2.2.2.1
          split
          · omega
          · simp; omega
        · rw [HY.out.2]
          exact hm.2.2.2.2.step _
      have hKl : K.length ≤ 100000 := by have := HMc.out.2.2.2.1; omega
      obtain ⟨W3, hst, hu3, hf3⟩ := HMc.out.2.2.1.store hKl HIn.out.2 (max (f yr) (yt.length : Int))
      obtain ⟨W4, hst4, hu4, hf4⟩ := HMd.out.2.2.1.store hKl HIn.out.2 (max (f yr) (yt.length : Int))
      have HE3 := hid (HStep.out _ _ HMc.out hf3 hu3)
      have HE4 := hid (HStep.out _ _ HMd.out hf4 hu4)
      rw [hy2] at hst hst4
      clear HStep HMc HMd hf3 hu3 hf4 hu4 HY HRk
      generalize f yr = fy at *
      go_wp2_with fail
      go_region
      go_wp2_with fail
      go_round
      case rel => exact ⟨k + 1, _, _, by omega, by go_num, by first | exact HE3 | exact HE4 | exact HE3.out.below (Below.refl _ _).drew⟩
      case measure => simp [intOf]; omega
    · replace hbb : begB (rk qs k).toks ts = false := by simpa using hbb
      rw [hbb] at HB
      have HM2 : Hid (∀ W, Below wr.heap.size wr W → MtR w B pg sz tn (.slice (some ⟨g, 0, none⟩) n cv) b qs ts (k + 1) (k + 1) K f W) := fun W hb => by
        have h9 := HM.out.below hb
        exact ⟨by rw [usR_no hlq hbb]; exact h9.1, h9.2.1, h9.2.2.1, by have := h9.2.2.2.1; omega, by rw [bgR_no hlq hbb]; exact h9.2.2.2.2⟩
      clear hbb HM
      generalize rk qs k = y at *
      obtain ⟨y1, y3, yt, yr, yu⟩ := y
      simp only at ca cr HB
      generalize yt.length = y2 at *
      go_wp2_with fail
      refine HB.out.mono ?_
      rintro e w2 ⟨rfl, hb2⟩
      have HM3 := hid (HM2.out _ hb2)
      clear hb2 HB c0 c1 c2 c3 ca cr cu HM2
      go_wp2_with fail
      go_round
      case rel => exact ⟨k + 1, K, f, by omega, by go_num, HM3⟩
      case measure => simp [intOf]; omega
  · obtain rfl : k = n := by omega
    have HE := hid (HEx.out _ _ _ HM.out)
    rw [← hN] at HE
    clear HM HT HEx HNb
    go_wp2
    go_ret
    exact ⟨b, rfl, HE⟩
end Go.Proofs.Ytdchoegaindnbaa
