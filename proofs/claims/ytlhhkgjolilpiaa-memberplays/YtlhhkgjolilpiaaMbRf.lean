/-
  The document's list in memory (RmAt): a struct in a block, its row; later, place, enter, Live.
-/
import Derived.Test.YtlhhkgjolilpiaaMbAll
import Derived.Deep.DeepCutAuto
namespace Go.Proofs.Ytlhhkgjolilpiaa
open Go.RowKit Go.Maps
set_option linter.unusedVariables false
set_option maxRecDepth 1000000

/-- Its cells. -/
def RmC (S : Ml) (v : Value) : Array Value := #[.int .i64 S.now, .int .u64 S.last, v]
/-- The document's list in block d, its row v; nothing of it below B. -/
structure RmAt (B : Nat) (W : World) (d : Nat) (v : Value) (S : Ml) : Prop where
  box : W.heap[d]? = some (.cells (RmC S v) 28 (0, 0))
  row : RwM 67 W B v S.L
  lo : B ≤ d
/-- Its blocks. -/
def rF (d : Nat) (v : Value) (k : Nat) : Prop := k = d ∨ v.ownBlock = some k
variable {B : Nat} {W W' w w' : World} {d i g n cap : Nat} {v v' : Value} {S S' : Ml} {r r' : Mr} {x t s : Int}
theorem RmAt.below (h : RmAt B W d v S) (hb : Below W.heap.size W W') : RmAt B W' d v S := ⟨block_bel h.box hb, h.row.below hb, h.lo⟩
theorem RmAt.lts (h : RmAt B W d v S) {k : Nat} (hk : rF d v k) : B ≤ k ∧ k < W.heap.size := by
  rcases hk with rfl | hk
  · exact ⟨h.lo, lt_of_block h.box⟩
  · exact h.row.lts hk
theorem RmAt.same (h : RmAt B W d v S) (hb : ∀ k, rF d v k → W'.heap[k]? = W.heap[k]?) : RmAt B W' d v S := ⟨(hb d (.inl rfl)).trans h.box, h.row.same fun k hk => hb k (.inr hk), h.lo⟩
theorem RmAt.fb {F : Nat → Prop} (h : RmAt B W d v S) (hb : Fb F W W') (hF : ∀ k, rF d v k → ¬ F k) : RmAt B W' d v S := h.same fun k hk => hb.block k (h.lts hk).2 (hF k hk)
theorem RmAt.drew (h : RmAt B W d v S) : RmAt B W.drew d v S := h.same fun _ _ => rfl
theorem RmAt.drewN (h : RmAt B W d v S) (m : Nat) : RmAt B (W.drewN m) d v S := h.same fun _ _ => rfl
structure RmCs (W : World) (d : Nat) (v : Value) (S : Ml) : Prop where
  now : W.cell? ⟨d, 0, none⟩ = some (.int .i64 S.now)
  last : W.cell? ⟨d, 1, none⟩ = some (.int .u64 S.last)
  row : W.cell? ⟨d, 2, none⟩ = some v
theorem RmAt.cs (h : RmAt B W d v S) : RmCs W d v S := by
  constructor <;> (rw [cell_of_row _ _ _ _ _ _ h.box]; rfl)
theorem RmAt.fz (h : RmAt B W d v S) (k : Nat) : W.frozen? ⟨d, k, none⟩ = false := frozen_of_row _ _ k _ _ h.box
theorem RmAt.apart (h : RmAt B W d v S) {k : Nat} (hk : v.ownBlock = some k) : k ≠ d := by
  rintro rfl
  rcases id h.row.2 with ⟨hv, _⟩ | ⟨g, cap, cur, hv, _, hg, _⟩
  · rw [hv] at hk; cases hk
  · rw [hv] at hk
    cases hk
    rw [h.box] at hg
    simp at hg
/-- What a call leaves: its blocks are those that were, or new. -/
structure RmO (B : Nat) (W : World) (d : Nat) (v : Value) (S' : Ml) (v' : Value) (W' : World) : Prop where
  at' : RmAt B W' d v' S'
  fr : Fb (rF d v) W W'
  own : ∀ k, v'.ownBlock = some k → v.ownBlock = some k ∨ W.heap.size ≤ k
theorem RmO.refl (h : RmAt B W d v S) : RmO B W d v S v W := ⟨h, Fb.refl _ _, fun k hk => .inl hk⟩
theorem RmO.trans {W1 W2 : World} {v1 v2 : Value} {S1 S2 : Ml} (h : RmO B W d v S1 v1 W1) (k : RmO B W1 d v1 S2 v2 W2) : RmO B W d v S2 v2 W2 :=
  ⟨k.at', h.fr.trans k.fr fun x hx => by
    rcases hx with rfl | hx
    · exact .inl (.inl rfl)
    · exact (h.own x hx).imp .inr id, fun x hx => (k.own x hx).elim (h.own x) fun e => .inr (Nat.le_trans h.fr.size e)⟩
theorem RmO.drewN {v1 : Value} {S1 : Ml} {W1 : World} (h : RmO B W d v S1 v1 W1) (m : Nat) : RmO B W d v S1 v1 (W1.drewN m) := ⟨h.at'.drewN m, ⟨h.fr.os, h.fr.tape, h.fr.output, h.fr.size, h.fr.block⟩, h.own⟩
theorem RmAt.boxed (h : RmAt B W d v S) {k : Nat} {u : Value} (e : (RmC S v).setIfInBounds k u = RmC S' v) (hL : S'.L = S.L) : RmO B W d v S' v (W.setCell ⟨d, k, none⟩ u) :=
  ⟨⟨by rw [← e]; exact row_set h.box, by rw [hL]; exact h.row.same fun j hj => Below.heap_setCell _ _ _ _ (by exact h.apart hj), h.lo⟩, Fb.set (F := rF d v) (p := ⟨d, k, none⟩) (.inl rfl) u, fun k hk => .inl hk⟩
/-! ### A replica of it -/
theorem mk_put {L : List Mr} (hr : RisM L) {i : Nat} (hi : i < L.length) {q : Mr} (hn : q.n = (atM L i).n) : L.set i q = putL L q := by
  unfold putL
  refine List.ext_getElem (by simp) fun j h1 h2 => ?_
  have hj : j < L.length := by simpa using h1
  rw [List.getElem_map, List.getElem_set]
  rw [mk_at hi] at hn
  by_cases e : i = j
  · subst e
    rw [if_pos rfl, if_pos hn.symm]
  · rw [if_neg e, if_neg]
    intro h3
    have h5 : (L.map Mr.n)[i]'(by simpa using hi) = (L.map Mr.n)[j]'(by simpa using hj) := by rw [List.getElem_map, List.getElem_map, h3, hn]
    exact e ((List.getElem_inj hr.nodup).1 h5)
/-- One of its replicas, at place i of its row in block g, is as r now; all else is as it was. -/
structure Rd (B : Nat) (w W : World) (d g n cap : Nat) (S : Ml) (i : Nat) (r : Mr) : Prop where
  at' : RmAt B W d (.slice (some ⟨g, 0, none⟩) n cap) (S.put r)
  fr : Fb (rF d (.slice (some ⟨g, 0, none⟩) n cap)) w W
  ris : RisM S.L
  lt : i < S.L.length
  nth : atM (S.put r).L i = r
  len : S.L.length = n
theorem Rd.init (h : RmAt B w d (.slice (some ⟨g, 0, none⟩) n cap) S) (hris : RisM S.L) (hi : i < S.L.length) (hn : S.L.length = n) : Rd B w w d g n cap S i (atM S.L i) := by
  have e := S.put_same hris (mk_mem hi)
  exact ⟨by rw [e]; exact h, Fb.refl _ _, hris, hi, by rw [e], hn⟩
theorem Rd.o (h : Rd B w W d g n cap S i r) : RmO B w d (.slice (some ⟨g, 0, none⟩) n cap) (S.put r) (.slice (some ⟨g, 0, none⟩) n cap) W := ⟨h.at', h.fr, fun k hk => .inl hk⟩
theorem Rd.lt' (h : Rd B w W d g n cap S i r) : i < (S.put r).L.length := by show i < (putL S.L r).length; rw [putL_len]; exact h.lt
theorem Rd.cs (h : Rd B w W d g n cap S i r) : W.cell? ⟨g, i * 5, none⟩ = some (.int .u64 r.n) ∧ W.cell? ⟨g, i * 5 + 1, none⟩ = some (.int .i64 r.st) ∧ W.cell? ⟨g, i * 5 + 2, none⟩ = some (.int .u64 r.inc) ∧ W.cell? ⟨g, i * 5 + 3, none⟩ = some (.int .i64 r.bd) ∧ W.cell? ⟨g, i * 5 + 4, none⟩ = some (.int .i64 r.si) := by
  have := h.at'.row.at h.lt'
  rw [h.nth] at this
  exact this
theorem Rd.box (h : Rd B w W d g n cap S i r) : RmCs W d (.slice (some ⟨g, 0, none⟩) n cap) S := ⟨h.at'.cs.now, h.at'.cs.last, h.at'.cs.row⟩
theorem Rd.fz (h : Rd B w W d g n cap S i r) (k : Nat) : W.frozen? ⟨g, k, none⟩ = false := by
  obtain ⟨g', c', cur, hv, hg, _⟩ := h.at'.row.isSome h.lt'
  cases hv
  exact frozen_of_row _ _ k _ _ hg
theorem Rd.drewN (h : Rd B w W d g n cap S i r) (m : Nat) : Rd B w (W.drewN m) d g n cap S i r := ⟨h.at'.drewN m, ⟨h.fr.os, h.fr.tape, h.fr.output, h.fr.size, h.fr.block⟩, h.ris, h.lt, h.nth, h.len⟩
theorem Rd.drew (h : Rd B w W d g n cap S i r) : Rd B w W.drew d g n cap S i r := ⟨h.at'.drew, h.fr.drew, h.ris, h.lt, h.nth, h.len⟩
theorem Rd.set (h : Rd B w W d g n cap S i r) {j : Nat} {u : Value} (hj : j < 5) (hn : r'.n = r.n) (e : (MrC r).setIfInBounds j u = MrC r') : Rd B w (W.setCell ⟨g, i * 5 + j, none⟩ u) d g n cap S i r' := by
  have hL : (S.put r).L.set i r' = (S.put r').L := by
    have e3 := mk_put (h.ris.put r) h.lt' (q := r') (by have := h.nth; show r'.n = (atM (S.put r).L i).n; rw [this]; exact hn)
    rw [show (S.put r).L.set i r' = (putL S.L r).set i r' from rfl, e3]
    show ((S.put r).put r').L = _
    rw [Ml.put_put _ hn.symm]
  have hg : g ≠ d := h.at'.apart rfl
  refine ⟨⟨?_, ?_, h.at'.lo⟩, h.fr.trans (Fb.set (F := rF d _) (p := ⟨g, i * 5 + j, none⟩) (.inr rfl) u) fun x hx => .inl hx, h.ris, h.lt, ?_, h.len⟩
  · rw [Below.heap_setCell _ _ _ _ (by exact fun e => hg e.symm)]
    exact h.at'.box
  · rw [← hL]
    exact h.at'.row.turned h.lt' hj (by rw [h.nth]; exact e)
  · rw [← hL, mk_at (by rw [List.length_set]; exact h.lt')]
    exact List.getElem_set_self ..
/-! ### later, place, enter, Live -/
theorem rlater_any (h : RmAt B w d v S) (t : Int) : Calls Try.prog 30 #[.pointer (some ⟨d, 0, none⟩), .int .i64 t] w fun e w' => e = .returned (.tuple #[]) ∧ Hid (RmO B w d v (S.tm t) v w') := by
  have c0 := h.cs.now
  by_cases h1 : S.now < t
  · by_cases h2 : t ≤ 1099511627776
    · have e : tmZ S.now t = t := if_pos ⟨h1, h2⟩
      have HF : Hid (RmO B w d v (S.tm t) v (w.setCell ⟨d, 0, none⟩ (.int .i64 t))) := h.boxed (by unfold Ml.tm; rw [e]; rfl) rfl
      have f0 := h.fz 0
      clear h e
      go_enter Try.func30, Try.ntmps30
      go_wp2
      go_end0
      exact ⟨rfl, HF⟩
    · have e : S.tm t = S := by unfold Ml.tm tmZ; rw [if_neg (by omega)]
      rw [e]
      have HF := hid (RmO.refl h)
      clear h e
      go_enter Try.func30, Try.ntmps30
      go_wp2
      go_end0
      exact ⟨rfl, HF⟩
  · have e : S.tm t = S := by unfold Ml.tm tmZ; rw [if_neg (by omega)]
    rw [e]
    have HF := hid (RmO.refl h)
    clear h e
    go_enter Try.func30, Try.ntmps30
    go_wp2
    go_end0
    exact ⟨rfl, HF⟩
/-- Where a number stands. -/
def PlM (S : Ml) (x pz : Int) : Prop := (∃ i : Nat, pz = i ∧ i < S.L.length ∧ S.get x = some (atM S.L i)) ∨ (pz = -1 ∧ S.get x = none)
theorem rplace_any (h : RmAt B w d v S) (hris : RisM S.L) (hlen : S.L.length ≤ 8) (x : Int) : Calls Try.prog 32 #[.pointer (some ⟨d, 0, none⟩), .int .u64 x] w fun e w' => ∃ pz, e = .returned (.int .i64 pz) ∧ Hid (PlM S x pz) ∧ w' = w := by
  obtain ⟨av, cv, rfl, rv, mv, nv⟩ := h.row.isSl
  have HH := hid h
  have HNo : Hid ((∀ j, j < S.L.length → ¬ (atM S.L j).n = x) → S.get x = none) := fun hj => gtL_none.2 fun b hb e => by
    obtain ⟨i, hi, rfl⟩ := List.mem_iff_getElem.1 hb
    exact hj i hi (by rw [mk_at hi]; exact e)
  have HYs : Hid (∀ j, j < S.L.length → (atM S.L j).n = x → S.get x = some (atM S.L j)) := fun j hj e => by rw [← e]; exact gtL_mem hris (mk_mem hj)
  have c3 := h.cs.row
  clear h hris
  obtain ⟨n, hN⟩ : ∃ n, S.L.length = n := ⟨_, rfl⟩
  have HNn := hid hN
  rw [hN] at rv HH HNo HYs hlen c3
  clear nv hN
  go_enter Try.func32, Try.ntmps32
  go_wp2_with fail
  go_loopw [5] (fun i W => ∃ k : Nat, k ≤ n ∧ i = .int .i64 k ∧ Hid (∀ j, j < k → ¬ (atM S.L j).n = x) ∧ Hid (W = w)) (fun i _ => n - (intOf i).toNat)
  case atStart => exact ⟨0, Nat.zero_le _, rfl, fun j hj => absurd hj (by omega), rfl⟩
  case round =>
  obtain ⟨k, hk, rfl, HJ, HW⟩ := hrel
  rename World => wr
  have hW := HW.out
  subst hW
  by_cases hlt : k < n
  · obtain ⟨g, cap', cur, hv, hg, _⟩ := HH.out.row.isSome (k := k) (by rw [HNn.out]; exact hlt)
    have hav : av = some ⟨g, 0, none⟩ := by cases hv; rfl
    subst hav
    have ca := (HH.out.row.at (k := k) (by rw [HNn.out]; exact hlt)).1
    have q1 : (k : Int) < (n : Int) := by omega
    by_cases he : (atM S.L k).n = x
    · have HP : Hid (PlM S x (k : Int)) := .inl ⟨k, rfl, by rw [HNn.out]; exact hlt, HYs.out k hlt he⟩
      rw [he] at ca
      clear he HNo HYs HJ HH hv hg cur
      go_wp2
      go_ret
      exact ⟨_, rfl, HP, rfl⟩
    · have HJ2 : Hid (∀ j, j < k + 1 → ¬ (atM S.L j).n = x) := fun j hj => by
        rcases (by omega : j < k ∨ j = k) with h' | rfl
        · exact HJ.out j h'
        · exact he
      have he1 : ((atM S.L k).n == x) = false := by simpa using he
      clear HNo HYs HJ HH hv hg cur he
      generalize (atM S.L k).n = y at *
      go_wp2_with fail
      go_round
      case rel => exact ⟨k + 1, by omega, by go_num, HJ2, trivial⟩
      case measure => simp [intOf]; omega
  · obtain rfl : k = n := by omega
    have HP : Hid (PlM S x (-1)) := .inr ⟨rfl, HNo.out HJ.out⟩
    clear HNo HYs HJ HH
    go_wp2
    go_ret
    exact ⟨_, rfl, HP, rfl⟩
theorem renter_any (h : Rd B w W d g n cap S i r) (hn : n ≤ 8) (hcap : n ≤ cap ∧ cap ≤ 9223372036854775807) (s : Int) : Calls Try.prog 33 #[.pointer (some ⟨d, 0, none⟩), .int .i64 i, .int .i64 s] W fun e w' => e = .returned (.tuple #[]) ∧ Hid (Rd B w w' d g n cap S i (r.ent S.now s)) := by
  have c1 := h.cs.2.1
  have c4 := h.cs.2.2.2.2
  have k2 := h.box.row
  have k0 := h.box.now
  have q1 : (i : Int) < (n : Int) := by have := h.lt; have := h.len; omega
  by_cases hs : r.st = s
  · have e : r.ent S.now s = r := if_pos hs
    rw [e]
    have HF := hid h
    rw [hs] at c1
    clear h e hs c4
    go_enter Try.func33, Try.ntmps33
    go_wp2
    go_end0
    exact ⟨rfl, HF⟩
  · have e : r.ent S.now s = { r with st := s, si := S.now } := if_neg hs
    rw [e]
    have f1 := h.fz (i * 5 + 1)
    have f4 := h.fz (i * 5 + 4)
    have h1 := h.set (r' := { r with st := s }) (j := 1) (u := .int .i64 s) (by decide) rfl rfl
    have h2 := h1.set (r' := { r with st := s, si := S.now }) (j := 4) (u := .int .i64 S.now) (by decide) rfl rfl
    have a4 := h1.cs.2.2.2.2
    have HF := hid h2.drew
    have d1 : (r.st == s) = false := by simp [hs]
    have d2 : (r.st != s) = true := by simp [hs]
    simp only at a4
    clear h e hs h1 h2
    generalize r.st = st at *
    generalize r.si = rsi at *
    generalize S.now = sn at *
    go_enter Try.func33, Try.ntmps33
    go_wp2_with fail
    go_region
    go_wp2_with fail
    go_end0
    exact ⟨rfl, HF⟩
end Go.Proofs.Ytlhhkgjolilpiaa
