/-
  The document's tree: less, older.
-/
import Derived.Test.YtdchoegaindnbaaRpPlc
namespace Go.Proofs.Ytdchoegaindnbaa
open Go.RowKit
set_option linter.unusedVariables false
set_option maxRecDepth 1000000

/-- Does a text come ahead of another one? -/
def lessB : List Int → List Int → Bool
  | a :: r, b :: s => if a = b then lessB r s else decide (a < b)
  | _, _ => false
theorem lessB_like : ∀ {xs ys : List Int} {k : Nat}, (∀ j, j < k → xs[j]?.getD 0 = ys[j]?.getD 0) → k ≤ xs.length → k ≤ ys.length → lessB xs ys = lessB (xs.drop k) (ys.drop k)
  | xs, ys, 0, _, _, _ => by simp
  | [], _, k + 1, _, h, _ => by simp at h
  | _, [], k + 1, _, _, h => by simp at h
  | x :: xs, y :: ys, k + 1, h, h1, h2 => by
    have e : x = y := by simpa using h 0 (by omega)
    rw [lessB, if_pos e, lessB_like (k := k) (fun j hj => by simpa using h (j + 1) (by omega)) (by simpa using h1) (by simpa using h2)]
    rfl
theorem lessB_end {xs ys : List Int} {k : Nat} (h : ∀ j, j < k → xs[j]?.getD 0 = ys[j]?.getD 0) (h1 : k ≤ xs.length) (h2 : k ≤ ys.length) (he : k = xs.length ∨ k = ys.length) : lessB xs ys = false := by
  rw [lessB_like h h1 h2]
  rcases he with rfl | rfl
  · rw [List.drop_length]; simp [lessB]
  · rw [List.drop_length]; cases List.drop ys.length xs <;> simp [lessB]
theorem lessB_at {xs ys : List Int} {k : Nat} (h : ∀ j, j < k → xs[j]?.getD 0 = ys[j]?.getD 0) (h1 : k < xs.length) (h2 : k < ys.length) (he : ¬ xs[k]?.getD 0 = ys[k]?.getD 0) : lessB xs ys = decide (xs[k]?.getD 0 < ys[k]?.getD 0) := by
  rw [lessB_like h (by omega) (by omega), List.drop_eq_getElem_cons h1, List.drop_eq_getElem_cons h2]
  rw [List.getElem?_eq_getElem h1, List.getElem?_eq_getElem h2] at he ⊢
  rw [lessB, if_neg (by simpa using he)]
  rfl
set_option maxHeartbeats 1000000 in
theorem rless_q (a : Option Addr) (la ca : Nat) (xs : List Int) (b : Option Addr) (lb cb : Nat) (ys : List Int) (w : World) (ha : Reads .i64 w a la ca xs) (hb : Reads .i64 w b lb cb ys) (h1 : la ≤ 1000) :
    Calls Try.prog 44 #[.slice a la ca, .slice b lb cb] w fun e w' => e = .returned (.bool (lessB xs ys)) ∧ ∃ m, w' = w.drewN m := by
  have za := ha.size
  have zb := hb.size
  have r1 := ha.room
  have m1 := ha.most
  have r2 := hb.room
  have m2 := hb.most
  have HA : Hid (∀ W : World, (∃ m, W = w.drewN m) → Reads .i64 W a la ca xs) := fun W ⟨m, hm⟩ => by rw [hm]; exact ha.below ⟨rfl, rfl, rfl, Nat.le_refl _, fun _ _ => rfl⟩
  have HB : Hid (∀ W : World, (∃ m, W = w.drewN m) → Reads .i64 W b lb cb ys) := fun W ⟨m, hm⟩ => by rw [hm]; exact hb.below ⟨rfl, rfl, rfl, Nat.le_refl _, fun _ _ => rfl⟩
  have HD : Hid (∀ (W : World) (n : Nat), Hid (∃ m, W = w.drewN m) → ∃ m, W.drewN n = w.drewN m) := fun W n h => by obtain ⟨m, hm⟩ := h.out; exact ⟨_, by rw [hm, World.drewN_drewN]⟩
  have HEn := hid fun (k : Nat) (h : ∀ j, j < k → xs[j]?.getD 0 = ys[j]?.getD 0) (h1 : k ≤ la) (h2 : k ≤ lb) (he : k = la ∨ k = lb) => lessB_end h (by omega) (by omega) (by omega)
  have HAt := hid fun (k : Nat) (h : ∀ j, j < k → xs[j]?.getD 0 = ys[j]?.getD 0) (h1 : k < la) (h2 : k < lb) (he : ¬ xs[k]?.getD 0 = ys[k]?.getD 0) => lessB_at h (by omega) (by omega) he
  clear ha hb
  generalize lessB xs ys = bb at *
  go_enter Try.func44, Try.ntmps44
  go_wp2_with fail
  go_loopw [5] (fun i W => ∃ k : Nat, k ≤ la ∧ k ≤ lb ∧ i = .int .i64 k ∧ Hid (∀ j, j < k → xs[j]?.getD 0 = ys[j]?.getD 0) ∧ Hid (∃ m, W = w.drewN m)) (fun i _ => la - (intOf i).toNat)
  case atStart => exact ⟨0, Nat.zero_le _, Nat.zero_le _, rfl, fun j hj => absurd hj (by omega), 0, rfl⟩
  case round =>
  obtain ⟨k, hk, hk2, rfl, HJ, HW⟩ := hrel
  by_cases hlt : k < la
  · have q2 : (k : Int) < (la : Int) := by omega
    by_cases hlb : k < lb
    · have q3 : (k : Int) < (lb : Int) := by omega
      obtain ⟨b1, o1, rfl, c1⟩ := (HA.out _ HW.out).cell k hlt
      obtain ⟨b2, o2, rfl, c2⟩ := (HB.out _ HW.out).cell k hlb
      by_cases he : xs[k]?.getD 0 = ys[k]?.getD 0
      · have HJ2 : Hid (∀ j, j < k + 1 → xs[j]?.getD 0 = ys[j]?.getD 0) := fun j hj => by
          rcases (by omega : j < k ∨ j = k) with h' | rfl
          · exact HJ.out j h'
          · exact he
        rw [he] at c1
        clear HJ HA HB HEn HAt he
        generalize ys[k]?.getD 0 = y at *
        go_wp2_with fail
        go_quiet (fail)
        go_wp2_with fail
        go_round
        case rel => exact ⟨k + 1, by omega, by omega, by go_num, HJ2, HD.out _ _ HW⟩
        case measure => simp [intOf]; omega
      · have hbb := HAt.out k HJ.out hlt hlb he
        obtain ⟨x, hx⟩ : ∃ x, xs[k]?.getD 0 = x := ⟨_, rfl⟩
        obtain ⟨y, hy⟩ : ∃ y, ys[k]?.getD 0 = y := ⟨_, rfl⟩
        rw [hx, hy] at hbb he
        rw [hx] at c1
        rw [hy] at c2
        subst hbb
        clear HJ HA HB HEn HAt hx hy
        have he2 : (x == y) = false := by simp [he]
        have he3 : (x != y) = true := by simp [he]
        go_wp2_with fail
        go_quiet (fail)
        go_wp2_with fail
        go_quiet (fail)
        go_wp2
        go_ret
        exact ⟨rfl, HD.out _ _ (hid (HD.out _ _ HW))⟩
    · have q3 : ¬ (k : Int) < (lb : Int) := by omega
      obtain rfl := HEn.out k HJ.out hk hk2 (by omega)
      clear HJ HA HB HEn HAt
      go_wp2
      go_ret
      exact ⟨rfl, HW.out⟩
  · have q2 : ¬ (k : Int) < (la : Int) := by omega
    obtain rfl := HEn.out k HJ.out hk hk2 (by omega)
    clear HJ HA HB HEn HAt
    go_wp2
    go_ret
    exact ⟨rfl, HW.out⟩
/-- Does a mark go ahead of another one? -/
def oldB (a b : Rk) : Bool := if a.used = b.used then if a.toks.length = b.toks.length then if a.rep = b.rep then lessB a.toks b.toks else decide (a.rep < b.rep) else decide (b.toks.length < a.toks.length) else decide (a.used < b.used)
/-- A mark's cells. -/
def RkV (q : Rk) : Array Value := #[.slice q.ap q.toks.length q.cp, .int .u64 q.rep, .int .i64 q.used]
set_option maxHeartbeats 1000000 in
theorem rolder_any (p q : Rk) (w : World) (hp : RkIn w p) (hq : RkIn w q) :
    Calls Try.prog 33 #[.agg #[.slice p.ap p.toks.length p.cp, .int .u64 p.rep, .int .i64 p.used], .agg #[.slice q.ap q.toks.length q.cp, .int .u64 q.rep, .int .i64 q.used]] w fun e w' => e = .returned (.bool (oldB p q)) ∧ Below w.heap.size w w' := by
  obtain ⟨w1, hw1⟩ : ∃ w1, w1 = (w.alloc (.cells #[.slice p.ap p.toks.length p.cp, .int .u64 p.rep, .int .i64 p.used] 45)).alloc (.cells #[.slice q.ap q.toks.length q.cp, .int .u64 q.rep, .int .i64 q.used] 45) := ⟨_, rfl⟩
  have hb1 : Below w.heap.size w w1 := by rw [hw1]; exact ((Below.refl _ _).alloc (Nat.le_refl _) _).alloc (by simp) _
  have hL := rless_q _ _ _ _ _ _ _ _ w1 (hp.rd.below hb1) (hq.rd.below hb1) hp.short
  rw [hw1] at hL
  have HB := hid hb1
  rw [hw1] at HB
  have HQ : Hid (∀ m, Below w.heap.size w (((w.alloc (.cells #[.slice p.ap p.toks.length p.cp, .int .u64 p.rep, .int .i64 p.used] 45)).alloc (.cells #[.slice q.ap q.toks.length q.cp, .int .u64 q.rep, .int .i64 q.used] 45)).drewN m)) := fun m => ⟨HB.out.os, HB.out.tape, HB.out.output, HB.out.size, HB.out.block⟩
  have sp := hp.short
  have sq := hq.short
  unfold oldB
  clear hb1 hw1 hp hq
  obtain ⟨pa, pc, pt, pr, pu⟩ := p
  obtain ⟨qa, qc, qt, qr, qu⟩ := q
  simp only at hL HB sp sq HQ ⊢
  generalize lessB pt qt = bb at *
  generalize pt.length = pl at *
  generalize qt.length = ql at *
  by_cases h1 : pu = qu
  · subst h1
    rw [if_pos rfl]
    by_cases h2 : pl = ql
    · subst h2
      rw [if_pos rfl]
      by_cases h3 : pr = qr
      · subst h3
        rw [if_pos rfl]
        go_enter Try.func33, Try.ntmps33
        go_wp2_with fail
        refine hL.mono ?_
        rintro e w2 ⟨rfl, m, rfl⟩
        go_wp2_with fail
        go_ret
        exact ⟨rfl, HQ.out m⟩
      · rw [if_neg h3]
        have h3' : (pr == qr) = false := by simpa using h3
        clear hL
        go_enter Try.func33, Try.ntmps33
        go_wp2_with fail
        go_ret
        exact ⟨rfl, HB.out⟩
    · rw [if_neg h2]
      have h2' : ¬ (pl : Int) = (ql : Int) := by omega
      have h2'' : ((pl : Int) == (ql : Int)) = false := by simpa using h2'
      have h4 : decide (ql < pl) = decide ((ql : Int) < (pl : Int)) := by simp
      rw [h4]
      clear hL h4
      go_enter Try.func33, Try.ntmps33
      go_wp2_with fail
      go_ret
      exact ⟨by simp, HB.out⟩
  · rw [if_neg h1]
    have h1' : (pu == qu) = false := by simpa using h1
    clear hL
    go_enter Try.func33, Try.ntmps33
    go_wp2_with fail
    go_ret
    exact ⟨rfl, HB.out⟩
end Go.Proofs.Ytdchoegaindnbaa
