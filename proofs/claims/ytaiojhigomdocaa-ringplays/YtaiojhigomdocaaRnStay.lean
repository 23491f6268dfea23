/-
  Orders stay: the points hang on the set of nodes alone; a node less strikes it out of the order. same; two rings side by side.
-/
import Derived.Test.YtaiojhigomdocaaRnBd
import Derived.Test.YtaiojhigomdocaaRnDrop
namespace Go.Proofs.Ytaiojhigomdocaa
open Go.RowKit Go.Maps Go.Shelf Go.Sort
set_option linter.unusedVariables false
set_option maxRecDepth 1000000

theorem pt_anti {a b : Int × Int} (h1 : ¬ ptlt b a) (h2 : ¬ ptlt a b) : a = b := by
  obtain ⟨a1, a2⟩ := a
  obtain ⟨b1, b2⟩ := b
  unfold ptlt at h1 h2
  simp only at h1 h2
  have e1 : a1 = b1 := by omega
  have e2 : a2 = b2 := by omega
  rw [e1, e2]
theorem pts_one {P Q : List (Int × Int)} (h1 : P.Pairwise fun x y => ¬ ptlt y x) (h2 : Q.Pairwise fun x y => ¬ ptlt y x) (hp : P.Perm Q) : P = Q :=
  List.Perm.eq_of_pairwise (fun a b _ _ q1 q2 => pt_anti q1 q2) h1 h2 hp
/-- The points hang on the nodes alone. -/
theorem RnAt.pts {W W' : World} {B B' : Nat} {s : Int} {e M M' : Nat} {v v' : Value} {L L' : List Int} {P P' : List (Int × Int)} (h : RnAt W B s e M v L P) (h' : RnAt W' B' s e M' v' L' P') (hp : L.Perm L') : P = P' :=
  pts_one h.srt h'.srt ((h.perm.trans (hp.flatMap_right _)).trans h'.perm.symm)
theorem RnAt.nd {W : World} {B : Nat} {s : Int} {e M : Nat} {v : Value} {L : List Int} {P : List (Int × Int)} (h : RnAt W B s e M v L P) : L.Nodup := by
  obtain ⟨_, _, _, _, q, _⟩ := h.map
  exact q
theorem RnAt.us {W : World} {B : Nat} {s : Int} {e M : Nat} {v : Value} {L : List Int} {P : List (Int × Int)} (h : RnAt W B s e M v L P) : ∀ x ∈ L, isU x := by
  obtain ⟨_, _, _, _, _, q⟩ := h.map
  exact q
open Classical in
theorem take_cnt {t : Int × Int} : ∀ {P : List (Int × Int)}, P.Pairwise (fun x y => ¬ ptlt y x) → P.take (cntP P t) = P.filter (fun p => decide (ptlt p t)) ∧ P.drop (cntP P t) = P.filter (fun p => decide (¬ ptlt p t))
  | [], _ => by simp
  | q :: r, hs => by
    rw [List.pairwise_cons] at hs
    obtain ⟨i1, i2⟩ := take_cnt (t := t) hs.2
    by_cases hq : ptlt q t
    · have hc : cntP (q :: r) t = cntP r t + 1 := by simp [cntP, hq]
      rw [hc]
      refine ⟨by rw [List.take_succ_cons, i1]; simp [hq], by rw [List.drop_succ_cons, i2]; simp [hq]⟩
    · have hall : ∀ y ∈ q :: r, ¬ ptlt y t := fun y hy => by
        rcases List.mem_cons.1 hy with rfl | hy
        · exact hq
        · exact ptlt_nt (hs.1 y hy) hq
      have hc : cntP (q :: r) t = 0 := by
        unfold cntP
        rw [List.countP_eq_zero]
        intro y hy
        simpa using hall y hy
      rw [hc]
      refine ⟨?_, ?_⟩
      · rw [List.take_zero, eq_comm, List.filter_eq_nil_iff]
        intro y hy
        simpa using hall y hy
      · rw [List.drop_zero, eq_comm, List.filter_eq_self]
        intro y hy
        simpa using hall y hy
theorem rot_keep {t : Int × Int} {P : List (Int × Int)} (h : P.Pairwise fun x y => ¬ ptlt y x) (n : Int) : rotP (keepP n P) (cntP (keepP n P) t) = keepP n (rotP P (cntP P t)) := by
  have h2 : (keepP n P).Pairwise fun x y => ¬ ptlt y x := h.filter _
  unfold rotP
  rw [(take_cnt h).1, (take_cnt h).2, (take_cnt h2).1, (take_cnt h2).2, keep_app]
  unfold keepP
  simp only [List.filter_filter, Bool.and_comm]
theorem frs_keep (n : Int) (ys : List Int) : frs (ys.filter fun y => !(y == n)) = (frs ys).filter fun y => !(y == n) := by
  refine snoc_ind (p := fun ys => frs (ys.filter fun y => !(y == n)) = (frs ys).filter fun y => !(y == n)) rfl ?_ ys
  intro ys y ih
  rw [List.filter_append, frs_snoc]
  by_cases e : y = n
  · have h1 : [y].filter (fun y => !(y == n)) = [] := by simp [e]
    rw [h1, List.append_nil, ih]
    split
    · rfl
    · rw [List.filter_append, h1, List.append_nil]
  · have h1 : [y].filter (fun y => !(y == n)) = [y] := by simp [e]
    rw [h1, frs_snoc, ih]
    have h2 : (y ∈ (frs ys).filter fun y => !(y == n)) ↔ y ∈ frs ys := by simp [e]
    by_cases h3 : y ∈ frs ys
    · rw [if_pos (h2.2 h3), if_pos h3]
    · rw [if_neg (fun h => h3 (h2.1 h)), if_neg h3, List.filter_append, h1]
theorem map_keep (n : Int) : ∀ Q : List (Int × Int), (keepP n Q).map (·.2) = (Q.map (·.2)).filter fun y => !(y == n)
  | [] => rfl
  | q :: Q => by
    have := map_keep n Q
    unfold keepP at *
    by_cases e : q.2 = n
    · simp [e, this]
    · simp [e, this]
/-- A node less: the order of the others stays. -/
theorem ord_keep {P : List (Int × Int)} (h : P.Pairwise fun x y => ¬ ptlt y x) (s n x : Int) : ordL s (keepP n P) x = (ordL s P x).filter fun y => !(y == n) := by
  unfold ordL
  rw [rot_keep h, map_keep, frs_keep]
theorem RnAt.ord_less {W W' : World} {B B' : Nat} {s : Int} {e M M' : Nat} {v v' : Value} {L : List Int} {P P' : List (Int × Int)} {n : Int} (h : RnAt W B s e M v L P) (h' : RnAt W' B' s e M' v' (L.erase n) P') (x : Int) : ordL s P' x = (ordL s P x).filter fun y => !(y == n) := by
  rw [← ord_keep h.srt]
  congr 1
  refine pts_one h'.srt (h.srt.filter _) (h'.perm.trans ?_)
  rw [← keep_erase h.nd]
  exact (h.perm.filter _).symm
theorem usame_yes (a b : Option Addr) (len ca cb : Nat) (xs : List Int) (w : World) (ha : Reads .u64 w a len ca xs) (hb : Reads .u64 w b len cb xs) (hlen : len ≤ 1000) :
    Calls Try.prog 18 #[.slice a len ca, .slice b len cb] w fun e w' => e = .returned (.bool true) ∧ Hid (RowKit.Below w.heap.size w w') := by
  have HA := hid ha
  have HB := hid hb
  clear ha hb
  go_enter Try.func18, Try.ntmps18
  go_wp2_with fail
  go_loopw [13] (fun i W => ∃ k : Nat, k ≤ len ∧ i = .int .i64 k ∧ Hid (RowKit.Below w.heap.size w W)) (fun i _ => len - (intOf i).toNat)
  case atStart => exact ⟨0, Nat.zero_le _, rfl, RowKit.Below.refl _ _⟩
  case round =>
    obtain ⟨k, hk, rfl, HW⟩ := hrel
    by_cases hlt : k < len
    · obtain ⟨b1, o1, rfl, c1⟩ := (HA.out.below HW.out).cell k hlt
      obtain ⟨b2, o2, rfl, c2⟩ := (HB.out.below HW.out).cell k hlt
      have r1 := HA.out.room
      have r2 := HB.out.room
      have m1 := HA.out.most
      have m2 := HB.out.most
      clear HA HB
      generalize xs[k]?.getD 0 = x at *
      go_wp2_with fail
      go_region
      go_wp2_with fail
      go_round
      case rel => exact ⟨k + 1, by omega, by go_num, HW.out.drew⟩
      case measure => simp [intOf]; omega
    · go_wp2
      go_ret
      exact ⟨rfl, HW.out⟩
/-- Two rings side by side, both made since lo. -/
structure TwoR (lo : Nat) (w : World) (s : Int) (e B1 M1 B2 M2 : Nat) (v1 : Value) (L1 : List Int) (v2 : Value) (L2 : List Int) (W : World) : Prop where
  one : ∃ P, RnAt W B1 s e M1 v1 L1 P
  two : ∃ P, RnAt W B2 s e M2 v2 L2 P
  far : ∀ k, rnF B1 M1 v1 k → rnF B2 M2 v2 k → False
  lo1 : ∀ k, rnF B1 M1 v1 k → lo ≤ k
  lo2 : ∀ k, rnF B2 M2 v2 k → lo ≤ k
  bel : RowKit.Below lo w W
  lows : lo ≤ w.heap.size
theorem RnAt.flt {W : World} {B : Nat} {s : Int} {e M : Nat} {v : Value} {L : List Int} {P : List (Int × Int)} (h : RnAt W B s e M v L P) : ∀ k, rnF B M v k → k < W.heap.size := by
  rintro k (rfl | rfl | hk)
  · exact h.obj.lt
  · exact h.mlt
  · exact h.plt hk
theorem TwoR.left {lo : Nat} {w : World} {s : Int} {e B1 M1 B2 M2 : Nat} {v1 v2 : Value} {L1 L2 : List Int} {W w' : World} (h : TwoR lo w s e B1 M1 B2 M2 v1 L1 v2 L2 W) {L : List Int} (ho : RnO W B1 s e M1 v1 L w') : ∃ v, TwoR lo w s e B1 M1 B2 M2 v L v2 L2 w' := by
  obtain ⟨P2, h2⟩ := h.two
  have hsz : lo ≤ W.heap.size := Nat.le_trans h.lows h.bel.size
  obtain ⟨v', P', k1, k2, k3⟩ := ho.step h.lo1 hsz
  obtain ⟨v'', P'', q1, q2, q3⟩ := ho
  have hlo : ∀ k, rnF B1 M1 v'' k → rnF B1 M1 v1 k ∨ W.heap.size ≤ k := by
    rintro k (rfl | rfl | hk)
    · exact .inl (.inl rfl)
    · exact .inl (.inr (.inl rfl))
    · exact (q3 k hk).imp (fun h => .inr (.inr h)) id
  refine ⟨v'', ⟨P'', q1⟩, ⟨P2, h2.fb q2 fun k hk hk1 => h.far k hk1 hk⟩, fun k hk1 hk2 => ?_, fun k hk => ?_, h.lo2, h.bel.trans k3, h.lows⟩
  · rcases hlo k hk1 with h' | h'
    · exact h.far k h' hk2
    · have := h2.flt k hk2; omega
  · rcases hlo k hk with h' | h'
    · exact h.lo1 k h'
    · omega
theorem TwoR.right {lo : Nat} {w : World} {s : Int} {e B1 M1 B2 M2 : Nat} {v1 v2 : Value} {L1 L2 : List Int} {W w' : World} (h : TwoR lo w s e B1 M1 B2 M2 v1 L1 v2 L2 W) {L : List Int} (ho : RnO W B2 s e M2 v2 L w') : ∃ v, TwoR lo w s e B1 M1 B2 M2 v1 L1 v L w' := by
  have h' : TwoR lo w s e B2 M2 B1 M1 v2 L2 v1 L1 W := ⟨h.two, h.one, fun k a b => h.far k b a, h.lo2, h.lo1, h.bel, h.lows⟩
  obtain ⟨v, q⟩ := h'.left ho
  exact ⟨v, q.two, q.one, fun k a b => q.far k b a, q.lo2, q.lo1, q.bel, q.lows⟩
theorem TwoR.below {lo : Nat} {w : World} {s : Int} {e B1 M1 B2 M2 : Nat} {v1 v2 : Value} {L1 L2 : List Int} {W w' : World} (h : TwoR lo w s e B1 M1 B2 M2 v1 L1 v2 L2 W) (hb : RowKit.Below W.heap.size W w') : TwoR lo w s e B1 M1 B2 M2 v1 L1 v2 L2 w' := by
  obtain ⟨P1, h1⟩ := h.one
  obtain ⟨P2, h2⟩ := h.two
  exact ⟨⟨P1, h1.below hb⟩, ⟨P2, h2.below hb⟩, h.far, h.lo1, h.lo2, h.bel.trans (hb.mono (Nat.le_trans h.lows h.bel.size)), h.lows⟩
/-- A list in memory of its own beside a ring. -/
structure WasR (lo : Nat) (w : World) (s : Int) (e B M : Nat) (v : Value) (L : List Int) (P : List (Int × Int)) (a : Option Addr) (n cap : Nat) (was : List Int) (W : World) : Prop where
  ring : RnAt W B s e M v L P
  row : Reads .u64 W a n cap was
  far : ∀ p : Addr, a = some p → ¬ rnF B M v p.block ∧ p.block < W.heap.size
  lo2 : ∀ k, rnF B M v k → lo ≤ k
  bel : RowKit.Below lo w W
  lows : lo ≤ w.heap.size
theorem Reads.fb {F : Nat → Prop} {k : IntKind} {W W' : World} {a : Option Addr} {l c : Nat} {zs : List Int} (hr : Reads k W a l c zs) (hb : Fb F W W') (hF : ∀ p : Addr, a = some p → ¬ F p.block) : Reads k W' a l c zs :=
  ⟨hr.size, hr.room, hr.most, hr.bare, fun i hi => by
    obtain ⟨b, off, ha, hc⟩ := hr.cell i hi
    exact ⟨b, off, ha, hb.cell hc (show ¬ F b from hF ⟨b, off, none⟩ ha)⟩⟩
theorem WasR.step {lo : Nat} {w : World} {s : Int} {e B M : Nat} {v : Value} {L : List Int} {P : List (Int × Int)} {a : Option Addr} {n cap : Nat} {was : List Int} {W w' : World} (h : WasR lo w s e B M v L P a n cap was W) {L' : List Int} (ho : RnO W B s e M v L' w') : ∃ v' P', WasR lo w s e B M v' L' P' a n cap was w' := by
  have hsz : lo ≤ W.heap.size := Nat.le_trans h.lows h.bel.size
  obtain ⟨_, _, _, _, k3⟩ := ho.step h.lo2 hsz
  obtain ⟨v'', P'', q1, q2, q3⟩ := ho
  have hlo : ∀ k, rnF B M v'' k → rnF B M v k ∨ W.heap.size ≤ k := by
    rintro k (rfl | rfl | hk)
    · exact .inl (.inl rfl)
    · exact .inl (.inr (.inl rfl))
    · exact (q3 k hk).imp (fun h => .inr (.inr h)) id
  refine ⟨v'', P'', q1, h.row.fb q2 fun p hp => (h.far p hp).1, fun p hp => ⟨fun hk => ?_, Nat.lt_of_lt_of_le (h.far p hp).2 q2.size⟩, fun k hk => ?_, h.bel.trans k3, h.lows⟩
  · rcases hlo _ hk with h' | h'
    · exact (h.far p hp).1 h'
    · have := (h.far p hp).2; omega
  · rcases hlo k hk with h' | h'
    · exact h.lo2 k h'
    · omega
theorem WasR.below {lo : Nat} {w : World} {s : Int} {e B M : Nat} {v : Value} {L : List Int} {P : List (Int × Int)} {a : Option Addr} {n cap : Nat} {was : List Int} {W w' : World} (h : WasR lo w s e B M v L P a n cap was W) (hb : RowKit.Below W.heap.size W w') : WasR lo w s e B M v L P a n cap was w' :=
  ⟨h.ring.below hb, h.row.below hb, fun p hp => ⟨(h.far p hp).1, Nat.lt_of_lt_of_le (h.far p hp).2 hb.size⟩, h.lo2, h.bel.trans (hb.mono (Nat.le_trans h.lows h.bel.size)), h.lows⟩
/-- While nodes come: which there are. -/
theorem radd_mem {L : List Int} {x y : Int} (hl : L.length < 64) : y ∈ (radd L x).2 ↔ y = x ∨ y ∈ L := by
  unfold radd
  split
  · rename_i h
    constructor
    · exact .inr
    · rintro (rfl | h')
      · exact h
      · exact h'
  · rw [if_neg (by omega)]
    simp
theorem radd_le {L : List Int} {x : Int} {k : Nat} (h : L.length ≤ k) : (radd L x).2.length ≤ k + 1 := by
  unfold radd
  split
  · show L.length ≤ k + 1; omega
  · split
    · show L.length ≤ k + 1; omega
    · simp; omega
end Go.Proofs.Ytaiojhigomdocaa
