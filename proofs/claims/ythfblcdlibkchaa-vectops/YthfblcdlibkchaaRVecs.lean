/-
  Contracts of the document's vectors: cut, both, Dot, Add, Scale, Relu.
-/
import Derived.Test.YthfblcdlibkchaaSofts
import Derived.Test.YthfblcdlibkchaaRNums
namespace Go.Proofs.Ythfblcdlibkchaa
open Go.RowKit
set_option linter.unusedVariables false
set_option maxRecDepth 1000000

/-- An append at a step of a region that draws its order. -/
theorem step_append_reads {P : Program} {w : World} {ops : Array Oper} {o : Oper} {a : Act} {K : Act → World → Prop} {Q : Exit → Act → World → Prop} {E : Prop} (hgd : o.guard = none) (d : Tmp) (hd : o.dst = some d) (s x : Operand) (t : TypeId)
    (ho : o.op = .call { callee := .builtin .append, args := #[s, x], argTypes := #[t, t] })
    (base : Nat) (e : TypeId) (i : TypeInfo) (z : Value) (bytes : Nat) (ht : P.underlying t = some (.slice e)) (hi : P.info? e = some i) (hz : i.zero = some z)
    (hsize : i.size = 1) (hby : i.bytes = bytes) (hzs : z.cells.size = 1) (k : IntKind)
    (v : Value) (n : Nat) (xs : List Int) (hs : a.eval s = v) (hown : w.ownsRow base e 1 v n (xs.map (Value.int k)))
    (ad : Addr) (m c : Nat) (news : List Int) (hx : a.eval x = .slice (some ad) m c) (hr : Reads k w (some ad) m c news) (hm : 0 < m)
    (h63 : n + m ≤ 9223372036854775807) (hbytes : (n + m) * bytes ≤ 140737488355328) (hbase : base ≤ w.heap.size)
    (h : ∀ v' w', w'.ownsRow base e 1 v' (n + m) ((xs ++ news).map (Value.int k)) → Below base w w' → K (a.put (some d) v') w') :
    if Region.wanted o (yielded ops a.tmps) = true then Oper.wp P o a w K Q else E := by
  refine step_append_lies w hgd s x t ho base e i z 1 bytes ht hi hz hsize hby hzs (by decide) v n _ hs hown ad m c (news.map (Value.int k)) hx (by simpa using hr.size) hr.news (ints_oneCell k news) hm (by unfold maxLen; omega) hbytes hbase _ rfl ?_
  intro g cap w' h1 h2 _ _
  rw [hd]
  refine h _ w' (by rw [List.map_append]; exact h1) ((Below.refl _ _).grown h2 hbase fun g hg => (hown.lt g hg).1)
/-- One number in a new block, as an append of one element lays it. -/
theorem Reads.one {k : IntKind} (w : World) (x : Int) (t : TypeId) : Reads k (w.alloc (.cells #[.int k x] t)) (some ⟨w.heap.size, 0, none⟩) 1 1 [x] :=
  ⟨rfl, Nat.le_refl _, by omega, (fun e => by cases e), fun i hi => ⟨w.heap.size, 0, rfl, (by
    have h0 : i = 0 := by omega
    subst h0
    simp)⟩⟩

/-- The like behind a draw. -/
theorem Reads.oned {k : IntKind} (w : World) (x : Int) (t : TypeId) : Reads k (w.alloc (.cells #[.int k x] t)).drew (some ⟨w.heap.size, 0, none⟩) 1 1 [x] :=
  (Reads.one w x t).below ((Below.refl _ _).drew)
theorem rcut_any (a : Option Addr) (len cap : Nat) (xs : List Int) (w : World) (ha : Reads .i64 w a len cap xs) (hlen : len ≤ 1000) :
    Calls Try.prog 41 #[.slice a len cap] w fun e w' => e = .returned (.slice a len cap) ∧ w' = w := by
  have r := ha.room
  have m := ha.most
  cases a with
  | none =>
    obtain ⟨rfl, rfl⟩ := ha.bare rfl
    clear ha
    go_enter Try.func41, Try.ntmps41
    go_wp2
    go_ret
    exact ⟨rfl, rfl⟩
  | some ad =>
    clear ha
    go_enter Try.func41, Try.ntmps41
    go_wp2
    go_ret
    exact ⟨rfl, rfl⟩
theorem rboth_any (a b : Option Addr) (la ca lb cb m : Nat) (xs ys : List Int) (w : World) (ha : Reads .i64 w a la ca xs) (hb : Reads .i64 w b lb cb ys) (hla : la ≤ 1000) (hlb : lb ≤ 1000) (hm : min la lb = m) :
    Calls Try.prog 35 #[.slice a la ca, .slice b lb cb] w fun e w' => e = .returned (.int .i64 m) ∧ w' = w := by
  have h1 := rcut_any a la ca xs w ha hla
  have h2 := rcut_any b lb cb ys w hb hlb
  clear ha hb
  rcases Nat.lt_or_ge lb la with hl | hl
  · obtain rfl : lb = m := by omega
    clear hm
    go_enter Try.func35, Try.ntmps35
    go_wp2_with fail
    refine h1.mono ?_
    rintro e w' ⟨rfl, rfl⟩
    go_wp2_with fail
    refine h2.mono ?_
    rintro e w' ⟨rfl, rfl⟩
    go_wp2
    go_ret
    exact ⟨rfl, rfl⟩
  · obtain rfl : la = m := by omega
    clear hm
    go_enter Try.func35, Try.ntmps35
    go_wp2_with fail
    refine h1.mono ?_
    rintro e w' ⟨rfl, rfl⟩
    go_wp2_with fail
    refine h2.mono ?_
    rintro e w' ⟨rfl, rfl⟩
    go_wp2
    go_ret
    exact ⟨rfl, rfl⟩

set_option maxHeartbeats 1000000 in
theorem rvdot_any (a b : Option Addr) (la ca lb cb : Nat) (xs ys : List Int) (w : World) (ha : Reads .i64 w a la ca xs) (hb : Reads .i64 w b lb cb ys) (hla : la ≤ 1000) (hlb : lb ≤ 1000) :
    Calls Try.prog 12 #[.slice a la ca, .slice b lb cb] w fun e w' => e = .returned (.int .i64 (dotK xs ys (min la lb))) ∧ Below w.heap.size w w' := by
  obtain ⟨m, hm⟩ : ∃ m, min la lb = m := ⟨_, rfl⟩
  have hma : m ≤ la := by omega
  have hmb : m ≤ lb := by omega
  have HBo := hid fun W (h : Below w.heap.size w W) => rboth_any a b la ca lb cb m xs ys W (ha.below h) (hb.below h) hla hlb hm
  rw [hm]
  have HA := hid ha
  have HB := hid hb
  clear ha hb hm
  go_enter Try.func12, Try.ntmps12
  go_wp2_with fail
  go_loopw [5, 6] (fun n i W => ∃ k : Nat, k ≤ m ∧ n = .int .i64 (dotK xs ys k) ∧ i = .int .i64 k ∧ Hid (Below w.heap.size w W)) (fun _ i _ => m - (intOf i).toNat)
  case atStart => exact ⟨0, Nat.zero_le _, rfl, rfl, Below.refl _ _⟩
  case round =>
    obtain ⟨k, hk, rfl, rfl, HW⟩ := hrel
    have hBo := HBo.out wr HW.out
    by_cases hlt : k < m
    · obtain ⟨b1, o1, rfl, c1⟩ := (HA.out.below HW.out).cell k (by omega)
      obtain ⟨b2, o2, rfl, c2⟩ := (HB.out.below HW.out).cell k (by omega)
      have r1 := HA.out.room
      have r2 := HB.out.room
      have m1 := HA.out.most
      have m2 := HB.out.most
      have q1 : (k : Int) < (la : Int) := by omega
      have q2 : (k : Int) < (lb : Int) := by omega
      have q3 : k < la := by omega
      have q4 : k < lb := by omega
      have HE : Hid (addZ (dotK xs ys k) (mulZ (xs[k]?.getD 0) (ys[k]?.getD 0)) = dotK xs ys (k + 1)) := rfl
      clear HA HB HBo
      generalize xs[k]?.getD 0 = x at *
      generalize ys[k]?.getD 0 = y at *
      generalize dotK xs ys k = s at *
      go_wp2_with fail
      refine hBo.mono ?_
      rintro e w' ⟨rfl, rfl⟩
      clear hBo
      go_wp2_with fail
      go_region_held3 (fun W : World => W.cell? ⟨b1, o1 + k, none⟩ = some (.int .i64 x) ∧ W.cell? ⟨b2, o2 + k, none⟩ = some (.int .i64 y)) (first | exact ⟨c1, c2⟩ | assumption) (first | (go_at_call 37; refine (rmul_any _ _ _).mono ?_; rintro e w' ⟨rfl, rfl⟩) | (go_at_call 36; refine (radd_any _ _ _).mono ?_; rintro e w' ⟨rfl, rfl⟩))
      go_wp2_with fail
      go_round
      case rel => exact ⟨k + 1, by omega, by rw [HE.out], by go_num, HW.out.drew⟩
      case measure => simp [intOf]; omega
    · obtain rfl : k = m := by omega
      clear HA HB HBo
      go_wp2_with fail
      refine hBo.mono ?_
      rintro e w' ⟨rfl, rfl⟩
      clear hBo
      go_wp2
      go_ret
      exact ⟨rfl, HW.out⟩

set_option maxHeartbeats 1000000 in
theorem rvadd_any (a b : Option Addr) (la ca lb cb : Nat) (xs ys : List Int) (w : World) (ha : Reads .i64 w a la ca xs) (hb : Reads .i64 w b lb cb ys) (hla : la ≤ 1000) (hlb : lb ≤ 1000) :
    Calls Try.prog 15 #[.slice a la ca, .slice b lb cb] w fun e w' => Gives w (min la lb) (pairK addZ xs ys (min la lb)) e w' := by
  obtain ⟨i0, hi, hz0, hz1, hz2⟩ := info_parts Try.info2
  obtain ⟨m, hm⟩ : ∃ m, min la lb = m := ⟨_, rfl⟩
  have hma : m ≤ la := by omega
  have hmb : m ≤ lb := by omega
  have HBo := hid fun W (h : Below w.heap.size w W) => rboth_any a b la ca lb cb m xs ys W (ha.below h) (hb.below h) hla hlb hm
  rw [hm]
  have HA := hid ha
  have HB := hid hb
  clear ha hb hm
  go_enter Try.func15, Try.ntmps15
  go_wp2_with fail
  go_loopw [5, 6] (fun u i W => ∃ k : Nat, k ≤ m ∧ i = .int .i64 k ∧ Hid (W.ownsRow w.heap.size 2 1 u k ((pairK addZ xs ys k).map (Value.int .i64))) ∧ Hid (Below w.heap.size w W)) (fun _ i _ => m - (intOf i).toNat)
  case atStart => exact ⟨0, Nat.zero_le _, rfl, World.ownsRow_nil _ _ _ _, Below.refl _ _⟩
  case round =>
    obtain ⟨k, hk, rfl, HO, HW⟩ := hrel
    have hBo := HBo.out wr HW.out
    by_cases hlt : k < m
    · obtain ⟨b1, o1, rfl, c1⟩ := (HA.out.below HW.out).cell k (by omega)
      obtain ⟨b2, o2, rfl, c2⟩ := (HB.out.below HW.out).cell k (by omega)
      have HK : Hid (∀ W, Below w.heap.size w W → W.cell? ⟨b1, o1 + k, none⟩ = some (.int .i64 (xs[k]?.getD 0)) ∧ W.cell? ⟨b2, o2 + k, none⟩ = some (.int .i64 (ys[k]?.getD 0))) := by
        intro W h
        obtain ⟨b, o, e, c⟩ := (HA.out.below h).cell k (by omega)
        obtain ⟨b', o', e', c'⟩ := (HB.out.below h).cell k (by omega)
        cases e
        cases e'
        exact ⟨c, c'⟩
      have r1 := HA.out.room
      have r2 := HB.out.room
      have m1 := HA.out.most
      have m2 := HB.out.most
      have q1 : (k : Int) < (la : Int) := by omega
      have q2 : (k : Int) < (lb : Int) := by omega
      have q3 : k < la := by omega
      have q4 : k < lb := by omega
      have HE : Hid (pairK addZ xs ys k ++ [addZ (xs[k]?.getD 0) (ys[k]?.getD 0)] = pairK addZ xs ys (k + 1)) := rfl
      have HS : Hid (w.heap.size ≤ wr.heap.size) := HW.out.size
      clear HA HB HBo
      generalize xs[k]?.getD 0 = x at *
      generalize ys[k]?.getD 0 = y at *
      generalize pairK addZ xs ys k = us at *
      go_wp2_with fail
      refine hBo.mono ?_
      rintro e w' ⟨rfl, rfl⟩
      clear hBo
      rename World => wr
      go_wp2_with fail
      go_region_held3 (fun W : World => W.cell? ⟨b1, o1 + k, none⟩ = some (.int .i64 x) ∧ W.cell? ⟨b2, o2 + k, none⟩ = some (.int .i64 y)) (first | exact ⟨c1, c2⟩ | assumption | exact HK.out _ (HW.out.alloc HS.out _) | exact HK.out _ (HW.out.drew.alloc HS.out _) | exact HK.out _ HB3.out) (first | (go_at_call 36; refine (radd_any _ _ _).mono ?_; rintro e w' ⟨rfl, rfl⟩) | (refine step_append_reads (by rfl) 25 (by rfl) (.tmp 14) (.tmp 24) 22 (by rfl) w.heap.size 2 i0 (.int .i64 0) 8 Try.underlying22 hi hz0 hz1 hz2 rfl .i64 _ k us (by rfl) (HO.out.alloc _) _ 1 1 [addZ x y] (by rfl) (Reads.oned _ _ _) (by omega) (by omega) (by omega) (Nat.le_trans HS.out (by simp)) ?_; intro v' w3 hO3 hb3; have HB3 := hid ((HW.out.alloc HS.out _).drew.trans hb3)))
      have HO3 : Hid (w3.ownsRow w.heap.size 2 1 v' (k + 1) ((pairK addZ xs ys (k + 1)).map (Value.int .i64))) := by rw [← HE.out]; exact hO3
      clear hO3 hb3 HK c1 c2
      go_wp2_with fail
      go_round
      case rel => exact ⟨k + 1, by omega, by go_num, HO3, HB3⟩
      case measure => simp [intOf]; omega
    · obtain rfl : k = m := by omega
      clear HA HB HBo
      go_wp2_with fail
      refine hBo.mono ?_
      rintro e w' ⟨rfl, rfl⟩
      clear hBo
      go_wp2
      go_ret
      exact gives_own HO.out HW.out
end Go.Proofs.Ythfblcdlibkchaa
