/-
  The document's tree: place, Has.
-/
import Derived.Test.YtdchoegaindnbaaRpSt
namespace Go.Proofs.Ytdchoegaindnbaa
open Go.RowKit
set_option linter.unusedVariables false
set_option maxRecDepth 1000000

/-- Is it this mark? -/
def isM (x : Int) (ts : List Int) (q : Rk) : Bool := decide (q.rep = x ∧ q.toks = ts)
def plcN (qs : List Rk) (x : Int) (ts : List Int) : Nat := qs.findIdx (isM x ts)
def plcM (qs : List Rk) (x : Int) (ts : List Int) : Int := if plcN qs x ts < qs.length then (plcN qs x ts : Int) else -1
theorem plcM_at {qs : List Rk} {x : Int} {ts : List Int} {i : Nat} (hi : i < qs.length) (h0 : isM x ts (rk qs i) = true) (hn : ∀ j, j < i → isM x ts (rk qs j) = false) : plcM qs x ts = i := by
  have e : plcN qs x ts = i := by
    unfold plcN
    rw [List.findIdx_eq hi]
    refine ⟨by rw [← rk_at hi]; exact h0, fun j hj => ?_⟩
    rw [← rk_at (by omega)]
    exact hn j hj
  unfold plcM
  rw [e, if_pos hi]
theorem plcM_none {qs : List Rk} {x : Int} {ts : List Int} (hn : ∀ j, j < qs.length → isM x ts (rk qs j) = false) : plcM qs x ts = -1 := by
  unfold plcM
  rw [if_neg]
  intro h
  have h2 : plcN qs x ts < qs.length := h
  have := List.findIdx_getElem (p := isM x ts) (xs := qs) (w := h2)
  have h3 := hn _ h2
  rw [rk_at h2] at h3
  rw [show qs[plcN qs x ts] = qs[List.findIdx (isM x ts) qs] from rfl] at h3
  rw [this] at h3
  cases h3
theorem plcM_iff {qs : List Rk} {x : Int} {ts : List Int} : 0 ≤ plcM qs x ts ↔ ∃ q ∈ qs, q.rep = x ∧ q.toks = ts := by
  unfold plcM
  by_cases h : plcN qs x ts < qs.length
  · rw [if_pos h]
    refine ⟨fun _ => ?_, fun _ => by omega⟩
    have := List.findIdx_getElem (p := isM x ts) (xs := qs) (w := h)
    exact ⟨_, List.getElem_mem h, of_decide_eq_true this⟩
  · rw [if_neg h]
    refine ⟨fun h => by omega, fun ⟨q, hq, h1⟩ => ?_⟩
    exact absurd (List.findIdx_lt_length_of_exists ⟨q, hq, by unfold isM; exact decide_eq_true h1⟩) h
theorem plcM_ok {qs : List Rk} {x : Int} {ts : List Int} {i : Nat} (h : plcM qs x ts = i) : i < qs.length ∧ (rk qs i).rep = x ∧ (rk qs i).toks = ts := by
  unfold plcM at h
  by_cases h1 : plcN qs x ts < qs.length
  · rw [if_pos h1] at h
    have e : plcN qs x ts = i := by omega
    have := List.findIdx_getElem (p := isM x ts) (xs := qs) (w := h1)
    rw [← e]
    refine ⟨h1, ?_⟩
    rw [rk_at h1]
    exact of_decide_eq_true this
  · rw [if_neg h1] at h; omega
set_option maxHeartbeats 2000000 in
theorem rplace_any {B pg sz : Nat} {tm : Int} {v : Value} {qs : List Rk} (a : Option Addr) (nt cap : Nat) (ts : List Int) (x : Int) (w : World) (h : RtAt w B pg sz tm v qs) (ht : Reads .i64 w a nt cap ts) (hn : nt ≤ 1000) :
    Calls Try.prog 32 #[.pointer (some ⟨B, 0, none⟩), .slice a nt cap, .int .u64 x] w fun e w' => e = .returned (.int .i64 (plcM qs x ts)) ∧ Below w.heap.size w w' := by
  obtain ⟨av, cv, rfl, rv, mv⟩ := h.isSl
  have zt := ht.size
  have rt := ht.room
  have mt := ht.most
  have hfew := h.few
  have HH := hid fun (W : World) (hb : Below w.heap.size w W) => h.below hb
  have HT := hid fun (W : World) (hb : Below w.heap.size w W) => ht.below hb
  have HYe := hid fun (k : Nat) (hk : k < qs.length) (h0 : isM x ts (rk qs k) = true) (hj : ∀ j, j < k → isM x ts (rk qs j) = false) => plcM_at hk h0 hj
  have HNo := hid fun (hj : ∀ j, j < qs.length → isM x ts (rk qs j) = false) => plcM_none (qs := qs) (x := x) (ts := ts) hj
  clear h ht
  generalize plcM qs x ts = pz at *
  obtain ⟨n, hN⟩ : ∃ n, qs.length = n := ⟨_, rfl⟩
  rw [hN] at rv HH HYe HNo hfew
  go_enter Try.func32, Try.ntmps32
  go_wp2_with fail
  go_loopw [7] (fun i W => ∃ k : Nat, k ≤ n ∧ i = .int .i64 k ∧ Hid (∀ j, j < k → isM x ts (rk qs j) = false) ∧ Hid (Below w.heap.size w W)) (fun i _ => n - (intOf i).toNat)
  case atStart => exact ⟨0, Nat.zero_le _, rfl, fun j hj => absurd hj (by omega), Below.refl _ _⟩
  case round =>
  obtain ⟨k, hk, rfl, HJ, HW⟩ := hrel
  rename World => wr
  have hR := HH.out _ HW.out
  obtain ⟨c0, c1, c2, c3⟩ := hR.cells
  by_cases hlt : k < n
  · obtain ⟨g, cap', cur, hv, hg, _, _⟩ := hR.isSome (k := k) (by omega)
    have hav : av = some ⟨g, 0, none⟩ := by cases hv; rfl
    subst hav
    obtain ⟨ca, cr, cu⟩ := hR.at (k := k) (by omega)
    have hro := (hR.ins _ (rk_mem (i := k) (by omega))).rd
    have q1 : (k : Int) < (n : Int) := by omega
    have HTk := hid (HT.out _ HW.out)
    have HB := hid (rbegins_any a nt cap ts _ _ _ _ wr HTk.out hro hn)
    have HNx : Hid (isM x ts (rk qs k) = false → ∀ j, j < k + 1 → isM x ts (rk qs j) = false) := fun hne j hj => by
      rcases (by omega : j < k ∨ j = k) with h' | rfl
      · exact HJ.out j h'
      · exact hne
    replace HYe := hid fun (h0 : isM x ts (rk qs k) = true) => HYe.out k hlt h0 HJ.out
    have HI : Hid (isM x ts (rk qs k) = decide ((rk qs k).rep = x ∧ (rk qs k).toks = ts)) := rfl
    rw [HI.out] at HNx HYe
    clear hR hro hv hg HH HT HNo HJ hN cur HI cu
    generalize rk qs k = y at *
    obtain ⟨y1, y3, yt, yr, yu⟩ := y
    simp only at ca cr HB HNx HYe
    obtain ⟨y2, hy2⟩ : ∃ y2, yt.length = y2 := ⟨_, rfl⟩
    rw [hy2] at ca HB
    by_cases hr : yr = x
    · subst hr
      by_cases hl : y2 = nt
      · subst hl
        by_cases he : yt = ts
        · have hbb : begB ts yt = true := (begB_like (by omega)).2 he.symm
          have hpz := HYe.out (by simp [he])
          rw [hbb] at HB
          subst hpz
          clear he hbb HNx HYe HTk hy2
          go_wp2_with fail
          refine HB.out.mono ?_
          rintro e w2 ⟨rfl, hb⟩
          have HV := hid (HW.out.trans (hb.mono HW.out.size))
          clear hb HB c0 c1 c2 c3 ca HW cr
          go_wp2
          go_ret
          exact ⟨rfl, HV.out⟩
        · have hbb : begB ts yt = false := by
            rw [Bool.eq_false_iff]
            exact fun e => he ((begB_like (by omega)).1 e).symm
          have HJ2 := hid (HNx.out (by simp [he]))
          rw [hbb] at HB
          clear he hbb HNx HYe HTk hy2
          go_wp2_with fail
          refine HB.out.mono ?_
          rintro e w2 ⟨rfl, hb⟩
          have HV := hid (HW.out.trans (hb.mono HW.out.size))
          clear hb HB c0 c1 c2 c3 ca HW cr
          go_wp2_with fail
          go_round
          case rel => exact ⟨k + 1, by omega, by go_num, HJ2, HV⟩
          case measure => simp [intOf]; omega
      · have HJ2 := hid (HNx.out (by
          rw [decide_eq_false_iff_not]
          rintro ⟨_, e⟩
          exact hl (by rw [← hy2, e, zt])))
        have hl1 : ((y2 : Int) == (nt : Int)) = false := by simp; omega
        have hl2 : ¬ (y2 : Int) = (nt : Int) := by omega
        clear HNx HYe HTk HB hy2
        go_wp2_with fail
        go_round
        case rel => exact ⟨k + 1, by omega, by go_num, HJ2, HW⟩
        case measure => simp [intOf]; omega
    · have HJ2 := hid (HNx.out (by simp [hr]))
      have hr1 : (yr == x) = false := by simpa using hr
      clear HNx HYe HTk HB hy2
      go_wp2_with fail
      go_round
      case rel => exact ⟨k + 1, by omega, by go_num, HJ2, HW⟩
      case measure => simp [intOf]; omega
  · obtain rfl : k = n := by omega
    have hpz := HNo.out HJ.out
    subst hpz
    clear hR HH HT HYe HNo HJ hN
    go_wp2
    go_ret
    exact ⟨rfl, HW.out⟩
theorem rhas_any {B pg sz : Nat} {tm : Int} {v : Value} {qs : List Rk} (a : Option Addr) (nt cap : Nat) (ts : List Int) (x : Int) (w : World) (h : RtAt w B pg sz tm v qs) (ht : Reads .i64 w a nt cap ts) (hn : nt ≤ 1000) :
    Calls Try.prog 20 #[.pointer (some ⟨B, 0, none⟩), .slice a nt cap, .int .u64 x] w fun e w' => e = .returned (.bool (decide (0 ≤ plcM qs x ts))) ∧ Below w.heap.size w w' := by
  have hP := rplace_any a nt cap ts x w h ht hn
  clear h ht
  generalize plcM qs x ts = pz at *
  go_enter Try.func20, Try.ntmps20
  go_wp2_with fail
  refine hP.mono ?_
  rintro e w1 ⟨rfl, hb⟩
  have HV := hid hb
  clear hP hb
  go_wp2
  go_ret
  exact ⟨rfl, HV.out⟩
end Go.Proofs.Ytdchoegaindnbaa
