/-
  The document's tree in memory (RtAt); begins.
-/
import Derived.Test.YtdchoegaindnbaaPtSt
import Derived.Deep.QuietTactic
import Derived.BigQuiet
namespace Go.Proofs.Ytdchoegaindnbaa
open Go.RowKit
set_option linter.unusedVariables false
set_option maxRecDepth 1000000

/-- Is a text a beginning of another one? -/
def begB (a b : List Int) : Bool := a.isPrefixOf b
theorem begB_iff {a b : List Int} : begB a b = true ↔ a.length ≤ b.length ∧ ∀ i, i < a.length → a[i]?.getD 0 = b[i]?.getD 0 := by
  unfold begB
  rw [List.isPrefixOf_iff_prefix]
  constructor
  · rintro ⟨c, rfl⟩
    refine ⟨by simp, fun i hi => ?_⟩
    rw [List.getElem?_append_left hi]
  · rintro ⟨h1, h2⟩
    refine List.prefix_iff_eq_take.2 (List.ext_getElem (by simp; omega) fun i h3 h4 => ?_)
    have := h2 i h3
    rw [List.getElem?_eq_getElem h3, List.getElem?_eq_getElem (by omega)] at this
    simpa using this
theorem begB_no {a b : List Int} {i : Nat} (hi : i < a.length) (h : a[i]?.getD 0 ≠ b[i]?.getD 0) : begB a b = false := by
  rw [Bool.eq_false_iff]; exact fun e => h ((begB_iff.1 e).2 i hi)
theorem begB_long {a b : List Int} (h : b.length < a.length) : begB a b = false := by
  rw [Bool.eq_false_iff]; exact fun e => by have := (begB_iff.1 e).1; omega
theorem begB_like {a b : List Int} (h : a.length = b.length) : begB a b = true ↔ a = b := by
  rw [begB_iff]
  constructor
  · rintro ⟨_, h2⟩
    refine List.ext_getElem h fun i h3 h4 => ?_
    have := h2 i h3
    rw [List.getElem?_eq_getElem h3, List.getElem?_eq_getElem h4] at this
    simpa using this
  · rintro rfl
    exact ⟨Nat.le_refl _, fun _ _ => rfl⟩
/-- A mark of the document's tree. -/
structure Rk where
  ap : Option Addr
  cp : Nat
  toks : List Int
  rep : Int
  used : Int
def Rk.at (q : Rk) (T : Int) : Rk := ⟨q.ap, q.cp, q.toks, q.rep, T⟩
/-- The mark at a place. -/
def rk (qs : List Rk) (i : Nat) : Rk := qs[i]?.getD ⟨none, 0, [], 0, 0⟩
theorem rk_at {qs : List Rk} {i : Nat} (h : i < qs.length) : rk qs i = qs[i] := by unfold rk; rw [List.getElem?_eq_getElem h]; rfl
theorem rk_mem {qs : List Rk} {i : Nat} (h : i < qs.length) : rk qs i ∈ qs := by rw [rk_at h]; exact List.getElem_mem h
def flatM : List Rk → List Value
  | [] => []
  | q :: qs => .slice q.ap q.toks.length q.cp :: .int .u64 q.rep :: .int .i64 q.used :: flatM qs
theorem flatM_len (qs : List Rk) : (flatM qs).length = qs.length * 3 := by
  induction qs with
  | nil => rfl
  | cons q qs ih => simp [flatM, ih]; omega
theorem flatM_app (ps qs : List Rk) : flatM (ps ++ qs) = flatM ps ++ flatM qs := by
  induction ps with
  | nil => rfl
  | cons p ps ih => simp [flatM, ih]
theorem flatM_at (qs : List Rk) : ∀ k, k < qs.length → (flatM qs)[k * 3]? = some (.slice (rk qs k).ap (rk qs k).toks.length (rk qs k).cp) ∧ (flatM qs)[k * 3 + 1]? = some (.int .u64 (rk qs k).rep) ∧ (flatM qs)[k * 3 + 2]? = some (.int .i64 (rk qs k).used) := by
  induction qs with
  | nil => intro k hk; simp at hk
  | cons q qs ih =>
    intro k hk
    cases k with
    | zero => simp [flatM, rk]
    | succ k =>
      have := ih k (by simpa using hk)
      rw [show (k + 1) * 3 = k * 3 + 1 + 1 + 1 by omega, show k * 3 + 1 + 1 + 1 + 1 = (k * 3 + 1) + 1 + 1 + 1 by omega, show k * 3 + 1 + 1 + 1 + 2 = (k * 3 + 2) + 1 + 1 + 1 by omega]
      simpa [flatM, rk] using this
theorem flatM_set (qs : List Rk) (t : Int) : ∀ k, k < qs.length → flatM (qs.set k ((rk qs k).at t)) = (flatM qs).set (k * 3 + 2) (.int .i64 t) := by
  induction qs with
  | nil => intro k hk; simp at hk
  | cons q qs ih =>
    intro k hk
    cases k with
    | zero => simp [flatM, rk, Rk.at]
    | succ k =>
      have := ih k (by simpa using hk)
      rw [show (k + 1) * 3 + 2 = (k * 3 + 2) + 1 + 1 + 1 by omega]
      have e : rk (q :: qs) (k + 1) = rk qs k := by simp [rk]
      rw [e]
      simp [flatM, this]
theorem flatM_one (qs : List Rk) : ∀ u ∈ flatM qs, u.oneCell' = true := by
  induction qs with
  | nil => intro u hu; simp [flatM] at hu
  | cons q qs ih =>
    intro u hu
    simp only [flatM, List.mem_cons] at hu
    rcases hu with rfl | rfl | rfl | hu
    · rfl
    · rfl
    · rfl
    · exact ih u hu
theorem flatM_take (qs : List Rk) : ∀ k, flatM (qs.take k) = (flatM qs).take (k * 3) := by
  induction qs with
  | nil => intro k; simp [flatM]
  | cons q qs ih =>
    intro k
    cases k with
    | zero => simp [flatM]
    | succ k =>
      rw [show (k + 1) * 3 = k * 3 + 1 + 1 + 1 by omega]
      simp [flatM, ih k]
theorem flatM_drop (qs : List Rk) : ∀ k, flatM (qs.drop k) = (flatM qs).drop (k * 3) := by
  induction qs with
  | nil => intro k; simp [flatM]
  | cons q qs ih =>
    intro k
    cases k with
    | zero => simp [flatM]
    | succ k =>
      rw [show (k + 1) * 3 = k * 3 + 1 + 1 + 1 by omega]
      simp [flatM, ih k]
/-- A text of its own: it lies in a block of ints. -/
structure RkIn (W : World) (q : Rk) : Prop where
  rd : Reads .i64 W q.ap q.toks.length q.cp q.toks
  ints : ∀ p, q.ap = some p → ∃ cur fz, W.heap[p.block]? = some (.cells cur 3 fz)
  is : isIs q.toks
  short : q.toks.length ≤ 1000
  rep : isU q.rep
theorem RkIn.same {W W' : World} {q : Rk} (h : RkIn W q) (hk : ∀ p, q.ap = some p → W'.heap[p.block]? = W.heap[p.block]?) : RkIn W' q := by
  refine ⟨⟨h.rd.size, h.rd.room, h.rd.most, h.rd.bare, fun i hi => ?_⟩, fun p hp => ?_, h.is, h.short, h.rep⟩
  · obtain ⟨b, off, e, hc⟩ := h.rd.cell i hi
    exact ⟨b, off, e, (World.cell?_of_block (a := ⟨b, off + i, none⟩) (hk ⟨b, off, none⟩ e)).trans hc⟩
  · obtain ⟨cur, fz, hc⟩ := h.ints p hp
    exact ⟨cur, fz, (hk p hp).trans hc⟩
theorem RkIn.kpi {W W' : World} {q : Rk} (h : RkIn W q) (hk : KpI W W') : RkIn W' q := h.same fun p hp => by
  obtain ⟨cur, fz, hc⟩ := h.ints p hp
  rw [hc]
  exact hk _ _ _ hc
theorem RkIn.below {W W' : World} {q : Rk} (h : RkIn W q) (hb : Below W.heap.size W W') : RkIn W' q := h.kpi (KpI.of hb)
/-- The document's tree in block B. -/
structure RtAt (W : World) (B : Nat) (pg sz : Nat) (tm : Int) (v : Value) (qs : List Rk) : Prop where
  var : W.heap[B]? = some (.cells #[.int .i64 pg, .int .i64 sz, .int .i64 tm, v] 30 (0, 0))
  own : W.ownsRow 0 45 3 v qs.length (flatM qs)
  ins : ∀ q ∈ qs, RkIn W q
  few : qs.length ≤ 5000
/-- The blocks that its calls may turn. -/
def rcF (B : Nat) (v : Value) (k : Nat) : Prop := k = B ∨ v.ownBlock = some k
/-- All its blocks. -/
def rtF (B : Nat) (v : Value) (qs : List Rk) (k : Nat) : Prop := rcF B v k ∨ ∃ q ∈ qs, ∃ p, q.ap = some p ∧ p.block = k
theorem RtAt.below {W W' : World} {B pg sz : Nat} {tm : Int} {v : Value} {qs : List Rk} (h : RtAt W B pg sz tm v qs) (hb : Below W.heap.size W W') : RtAt W' B pg sz tm v qs :=
  ⟨block_bel h.var hb, own_below h.own hb, fun q hq => (h.ins q hq).below hb, h.few⟩
theorem RtAt.same {W W' : World} {B pg sz : Nat} {tm : Int} {v : Value} {qs : List Rk} (h : RtAt W B pg sz tm v qs) (hb : ∀ k, rtF B v qs k → W'.heap[k]? = W.heap[k]?) : RtAt W' B pg sz tm v qs :=
  ⟨(hb B (.inl (.inl rfl))).trans h.var, own_blk h.own fun b hv => hb b (.inl (.inr hv)), fun q hq => (h.ins q hq).same fun p hp => hb _ (.inr ⟨q, hq, p, hp, rfl⟩), h.few⟩
theorem RtAt.lts {W : World} {B pg sz : Nat} {tm : Int} {v : Value} {qs : List Rk} (h : RtAt W B pg sz tm v qs) {k : Nat} (hk : rtF B v qs k) : k < W.heap.size := by
  rcases hk with (rfl | hk) | ⟨q, hq, p, hp, rfl⟩
  · exact lt_of_block h.var
  · exact (h.own.lt k hk).2
  · obtain ⟨cur, fz, hc⟩ := (h.ins q hq).ints p hp
    exact lt_of_block hc
theorem RtAt.cells {W : World} {B pg sz : Nat} {tm : Int} {v : Value} {qs : List Rk} (h : RtAt W B pg sz tm v qs) :
    W.cell? ⟨B, 0, none⟩ = some (.int .i64 pg) ∧ W.cell? ⟨B, 1, none⟩ = some (.int .i64 sz) ∧ W.cell? ⟨B, 2, none⟩ = some (.int .i64 tm) ∧ W.cell? ⟨B, 3, none⟩ = some v := by
  refine ⟨?_, ?_, ?_, ?_⟩ <;> (rw [cell_of_row _ _ _ _ _ _ h.var]; rfl)
theorem RtAt.isSome {W : World} {B pg sz : Nat} {tm : Int} {v : Value} {qs : List Rk} (h : RtAt W B pg sz tm v qs) {k : Nat} (hk : k < qs.length) :
    ∃ g cap cur, v = .slice (.some ⟨g, 0, .none⟩) qs.length cap ∧ W.heap[g]? = .some (.cells cur 45 (0, 0)) ∧ qs.length ≤ cap ∧ cap ≤ 9223372036854775807 := by
  rcases id h.own.2 with ⟨_, h0⟩ | ⟨g, cap, cur, hv, _, hg, hnc, hm, _⟩
  · omega
  · exact ⟨g, cap, cur, hv, hg, hnc, by unfold maxLen at hm; omega⟩
theorem RtAt.isSl {W : World} {B pg sz : Nat} {tm : Int} {v : Value} {qs : List Rk} (h : RtAt W B pg sz tm v qs) : ∃ a cap, v = .slice a qs.length cap ∧ qs.length ≤ cap ∧ cap ≤ 9223372036854775807 := by
  rcases id h.own.2 with ⟨hv, h0⟩ | ⟨g, cap, cur, hv, _, hg, hnc, hm, _⟩
  · exact ⟨.none, 0, by rw [hv, h0], by omega, by omega⟩
  · exact ⟨_, cap, hv, hnc, by unfold maxLen at hm; omega⟩
theorem RtAt.at {W : World} {B pg sz : Nat} {tm : Int} {qs : List Rk} {g n cap : Nat} (h : RtAt W B pg sz tm (.slice (.some ⟨g, 0, .none⟩) n cap) qs) {k : Nat} (hk : k < qs.length) :
    W.cell? ⟨g, k * 3, none⟩ = some (.slice (rk qs k).ap (rk qs k).toks.length (rk qs k).cp) ∧ W.cell? ⟨g, k * 3 + 1, none⟩ = some (.int .u64 (rk qs k).rep) ∧ W.cell? ⟨g, k * 3 + 2, none⟩ = some (.int .i64 (rk qs k).used) := by
  have hn : n = qs.length := by
    rcases id h.own.2 with ⟨hv, _⟩ | ⟨g', c', cur, hv, _⟩
    · cases hv
    · cases hv; rfl
  subst hn
  obtain ⟨f0, f1, f2⟩ := flatM_at qs k hk
  exact ⟨by rw [World.ownsRow.cellAt h.own (k * 3) (by omega), f0], by rw [World.ownsRow.cellAt h.own (k * 3 + 1) (by omega), f1], by rw [World.ownsRow.cellAt h.own (k * 3 + 2) (by omega), f2]⟩
set_option maxHeartbeats 1000000 in
theorem rbegins_q (a : Option Addr) (la ca : Nat) (xs : List Int) (b : Option Addr) (lb cb : Nat) (ys : List Int) (w : World) (ha : Reads .i64 w a la ca xs) (hb : Reads .i64 w b lb cb ys) (h1 : la ≤ 1000) :
    Calls Try.prog 28 #[.slice a la ca, .slice b lb cb] w fun e w' => e = .returned (.bool (begB xs ys)) ∧ ∃ m, w' = w.drewN m := by
  have za := ha.size
  have zb := hb.size
  have r1 := ha.room
  have m1 := ha.most
  have r2 := hb.room
  have m2 := hb.most
  have HA : Hid (∀ W : World, (∃ m, W = w.drewN m) → Reads .i64 W a la ca xs) := fun W ⟨m, hm⟩ => by rw [hm]; exact ha.below ⟨rfl, rfl, rfl, Nat.le_refl _, fun _ _ => rfl⟩
  have HB : Hid (∀ W : World, (∃ m, W = w.drewN m) → Reads .i64 W b lb cb ys) := fun W ⟨m, hm⟩ => by rw [hm]; exact hb.below ⟨rfl, rfl, rfl, Nat.le_refl _, fun _ _ => rfl⟩
  have HD : Hid (∀ (W : World) (n : Nat), Hid (∃ m, W = w.drewN m) → ∃ m, W.drewN n = w.drewN m) := fun W n h => by obtain ⟨m, hm⟩ := h.out; exact ⟨_, by rw [hm, World.drewN_drewN]⟩
  by_cases hl : lb < la
  · rw [begB_long (by omega)]
    have q1 : (lb : Int) < (la : Int) := by omega
    clear ha hb HA HB
    go_enter Try.func28, Try.ntmps28
    go_wp2
    go_ret
    exact ⟨rfl, 0, rfl⟩
  · have q1 : ¬ (lb : Int) < (la : Int) := by omega
    have HNo := hid fun (i : Nat) (hi : i < la) (h : xs[i]?.getD 0 ≠ ys[i]?.getD 0) => begB_no (a := xs) (b := ys) (by omega) h
    have HYe : Hid ((∀ i, i < la → xs[i]?.getD 0 = ys[i]?.getD 0) → begB xs ys = true) := fun h => begB_iff.2 ⟨by omega, fun i hi => h i (by omega)⟩
    clear ha hb
    generalize begB xs ys = bb at *
    go_enter Try.func28, Try.ntmps28
    go_wp2_with fail
    go_loopw [5] (fun i W => ∃ k : Nat, k ≤ la ∧ i = .int .i64 k ∧ Hid (∀ j, j < k → xs[j]?.getD 0 = ys[j]?.getD 0) ∧ Hid (∃ m, W = w.drewN m)) (fun i _ => la - (intOf i).toNat)
    case atStart => exact ⟨0, Nat.zero_le _, rfl, fun j hj => absurd hj (by omega), 0, rfl⟩
    case round =>
    obtain ⟨k, hk, rfl, HJ, HW⟩ := hrel
    by_cases hlt : k < la
    · obtain ⟨b1, o1, rfl, c1⟩ := (HA.out _ HW.out).cell k hlt
      obtain ⟨b2, o2, rfl, c2⟩ := (HB.out _ HW.out).cell k (by omega)
      have q2 : (k : Int) < (la : Int) := by omega
      have q3 : k < lb := by omega
      by_cases he : xs[k]?.getD 0 = ys[k]?.getD 0
      · have HJ2 : Hid (∀ j, j < k + 1 → xs[j]?.getD 0 = ys[j]?.getD 0) := fun j hj => by
          rcases (by omega : j < k ∨ j = k) with h' | rfl
          · exact HJ.out j h'
          · exact he
        rw [he] at c1
        clear HJ HA HB HNo HYe he
        generalize ys[k]?.getD 0 = y at *
        go_wp2_with fail
        go_quiet (fail)
        go_wp2_with fail
        go_round
        case rel => exact ⟨k + 1, by omega, by go_num, HJ2, HD.out _ _ HW⟩
        case measure => simp [intOf]; omega
      · obtain rfl := HNo.out k hlt he
        clear HJ HA HB HNo HYe
        generalize ys[k]?.getD 0 = y at *
        generalize xs[k]?.getD 0 = x at *
        have he2 : (x == y) = false := by simp [he]
        have he3 : (x != y) = true := by simp [he]
        go_wp2_with fail
        go_quiet (fail)
        go_wp2
        go_ret
        exact ⟨rfl, HD.out _ _ HW⟩
    · obtain rfl : k = la := by omega
      have hbb := HYe.out HJ.out
      subst hbb
      clear HJ HA HB HNo HYe
      go_wp2
      go_ret
      exact ⟨rfl, HW.out⟩
theorem rbegins_any (a : Option Addr) (la ca : Nat) (xs : List Int) (b : Option Addr) (lb cb : Nat) (ys : List Int) (w : World) (ha : Reads .i64 w a la ca xs) (hb : Reads .i64 w b lb cb ys) (h1 : la ≤ 1000) :
    Calls Try.prog 28 #[.slice a la ca, .slice b lb cb] w fun e w' => e = .returned (.bool (begB xs ys)) ∧ Below w.heap.size w w' :=
  (rbegins_q a la ca xs b lb cb ys w ha hb h1).mono fun e w' ⟨h1, m, h2⟩ => ⟨h1, by rw [h2]; exact ⟨rfl, rfl, rfl, Nat.le_refl _, fun _ _ => rfl⟩⟩
end Go.Proofs.Ytdchoegaindnbaa
