/-
  Arguments of stage 18's statements: steps, numbers; short; alive.
-/
import Derived.Test.YtfnbofhppfjmgaaAfOps
import Derived.Deep.Slices
import Derived.ProofKit
namespace Go.Proofs.Ytfnbofhppfjmgaa
open Go.RowKit Go.Maps
set_option linter.unusedVariables false
set_option maxRecDepth 1000000

theorem arrayN4 {α : Type} {cs : Array α} (h : cs.size = 4) : ∃ c0 c1 c2 c3, cs = #[c0, c1, c2, c3] := by
  obtain ⟨l⟩ := cs
  match l, h with
  | [c0, c1, c2, c3], _ => exact ⟨c0, c1, c2, c3, rfl⟩
theorem listN4 {α : Type} {cs : List α} (h : cs.length = 4) : ∃ c0 c1 c2 c3, cs = [c0, c1, c2, c3] := by
  match cs, h with
  | [c0, c1, c2, c3], _ => exact ⟨c0, c1, c2, c3, rfl⟩
/-- The slice reads as these structs, k cells each. -/
structure Lst {α : Type} (w : World) (a : Option Addr) (len cap k : Nat) (xs : List α) (V : α → Array Value) (I : α → Prop) : Prop where
  size : xs.length = len
  room : len ≤ cap
  most : cap ≤ 9223372036854775807
  bare : a = none → len = 0 ∧ cap = 0
  cell : ∀ i (hi : i < xs.length), ∃ b off, a = some ⟨b, off, none⟩ ∧ ∀ j, j < k → w.cell? ⟨b, off + i * k + j, none⟩ = (V xs[i])[j]?
  inn : ∀ i (hi : i < xs.length), I xs[i]
/-- A step: its kind, how much later, its session, its replica. -/
structure Sp where
  kd : Int
  later : Int
  ses : Int
  rep : Int
/-- Its cells. -/
def SpV (s : Sp) : Array Value := #[.int .u8 s.kd, .int .i64 s.later, .int .u64 s.ses, .int .u64 s.rep]
/-- What is known of it. -/
structure SpIn (s : Sp) : Prop where
  kd : 0 ≤ s.kd ∧ s.kd ≤ 255
  later : isI s.later
  ses : isU s.ses
  rep : isU s.rep
theorem Try.cellsI6 : Try.prog.cellsOf 2 = 1 := by kernel_rfl
theorem Try.cellsU8 : Try.prog.cellsOf 5 = 1 := by kernel_rfl
theorem Try.cellsU1 : Try.prog.cellsOf 34 = 1 := by kernel_rfl
theorem Try.cellsSp : Try.prog.cellsOf 36 = 4 := by kernel_rfl
theorem at_some3 {α : Type} {xs : List α} {n : Nat} (h : xs.length = n) {i : Nat} (hi : i < n) : ∃ y, xs[i]? = some y := ⟨_, List.getElem?_eq_getElem (by omega)⟩
section Args
open Go.ChangeShapes Go.WideShapes Go.ChangeAt
variable {H : Type} {enc : TypeId × Value → H} {W : World}
theorem eu64_at {fuel : Nat} {c : Value} {x : DataW H × List MemPlace} (h : DataW.trod enc Try.prog W 0 (fun _ => true) true fuel 34 [c] = some x) : ∃ n : Int, c = .int .u64 n ∧ isU n := by
  obtain ⟨n, hc, _, hw⟩ := DataW.trod_int Try.underlying34 h
  simp at hc
  have := bounds_u64 hw
  exact ⟨n, hc, by omega, by omega⟩
theorem eint_at {fuel : Nat} {c : Value} {x : DataW H × List MemPlace} (h : DataW.trod enc Try.prog W 0 (fun _ => true) true fuel 2 [c] = some x) : ∃ n : Int, c = .int .i64 n ∧ isI n := by
  obtain ⟨n, hc, _, hw⟩ := DataW.trod_int Try.underlying2 h
  simp at hc
  have := bounds_i64 hw
  exact ⟨n, hc, by omega, by omega⟩
theorem eu8_at {fuel : Nat} {c : Value} {x : DataW H × List MemPlace} (h : DataW.trod enc Try.prog W 0 (fun _ => true) true fuel 5 [c] = some x) : ∃ n : Int, c = .int .u8 n ∧ 0 ≤ n ∧ n ≤ 255 := by
  obtain ⟨n, hc, _, hw⟩ := DataW.trod_int Try.underlying5 h
  simp at hc
  have := bounds_u8 hw
  exact ⟨n, hc, by omega, by omega⟩
theorem sp_at {fuel : Nat} {c0 c1 c2 c3 : Value} {x : DataW H × List MemPlace} (hf : DataW.trod enc Try.prog W 0 (fun _ => true) true fuel 36 [c0, c1, c2, c3] = some x) :
    ∃ s : Sp, [c0, c1, c2, c3] = (SpV s).toList ∧ SpIn s := by
  obtain ⟨xs, n, _, _, _, hl, hF⟩ := DataW.trod_struct Try.underlying36 hf
  have hl : xs.length = 4 := hl
  obtain ⟨y0, e0⟩ := at_some3 hl (i := 0) (by omega)
  obtain ⟨y1, e1⟩ := at_some3 hl (i := 1) (by omega)
  obtain ⟨y2, e2⟩ := at_some3 hl (i := 2) (by omega)
  obtain ⟨y3, e3⟩ := at_some3 hl (i := 3) (by omega)
  have g0 : DataW.trod enc Try.prog W 0 (fun _ => true) true n 5 [c0] = some y0 := by
    have g := hF 0 _ rfl
    change DataW.trod enc Try.prog W 0 (fun _ => true) true n 5 (List.take (Try.prog.cellsOf 5) (List.drop 0 [c0, c1, c2, c3])) = xs[0]? at g
    rw [Try.cellsU8, e0] at g
    exact g
  have g1 : DataW.trod enc Try.prog W 0 (fun _ => true) true n 2 [c1] = some y1 := by
    have g := hF 1 _ rfl
    change DataW.trod enc Try.prog W 0 (fun _ => true) true n 2 (List.take (Try.prog.cellsOf 2) (List.drop 1 [c0, c1, c2, c3])) = xs[1]? at g
    rw [Try.cellsI6, e1] at g
    exact g
  have g2 : DataW.trod enc Try.prog W 0 (fun _ => true) true n 34 [c2] = some y2 := by
    have g := hF 2 _ rfl
    change DataW.trod enc Try.prog W 0 (fun _ => true) true n 34 (List.take (Try.prog.cellsOf 34) (List.drop 2 [c0, c1, c2, c3])) = xs[2]? at g
    rw [Try.cellsU1, e2] at g
    exact g
  have g3 : DataW.trod enc Try.prog W 0 (fun _ => true) true n 34 [c3] = some y3 := by
    have g := hF 3 _ rfl
    change DataW.trod enc Try.prog W 0 (fun _ => true) true n 34 (List.take (Try.prog.cellsOf 34) (List.drop 3 [c0, c1, c2, c3])) = xs[3]? at g
    rw [Try.cellsU1, e3] at g
    exact g
  clear hF
  obtain ⟨kd, rfl, k1, k2⟩ := eu8_at g0
  obtain ⟨la, rfl, lb⟩ := eint_at g1
  obtain ⟨se, rfl, sb⟩ := eu64_at g2
  obtain ⟨rp, rfl, rb⟩ := eu64_at g3
  exact ⟨⟨kd, la, se, rp⟩, rfl, ⟨k1, k2⟩, lb, sb, rb⟩
theorem steps18_open {b0 : Nat} {v : Value} {d : DataW H} {ps : List MemPlace} (hv : Value.okWide Try.prog W .any b0 22 v) (h : DataW.Trod enc Try.prog W 0 (fun _ => true) true 22 v d ps) :
    ∃ a len cap xs, v = .slice a len cap ∧ Lst W a len cap 4 xs SpV SpIn := by
  obtain ⟨a, len, cap, rfl⟩ := okWide_slice Try.underlying22 hv
  obtain ⟨fuel, hf⟩ := h
  change DataW.trod enc Try.prog W 0 (fun _ => true) true fuel 22 [.slice a len cap] = _ at hf
  rcases Go.Deep.open_slice Try.underlying22 hf with ⟨hcs, _⟩ | ⟨ad, l, c, m, n, D, Pl, hcs, _, hl, hm, hmm, _, hx⟩
  · simp at hcs
    obtain ⟨rfl, rfl, rfl⟩ := hcs
    exact ⟨none, 0, 0, [], rfl, rfl, Nat.le_refl _, by omega, fun _ => ⟨rfl, rfl⟩, fun i hi => absurd hi (by simp), fun i hi => absurd hi (by simp)⟩
  · simp at hcs
    obtain ⟨rfl, rfl, rfl⟩ := hcs
    have hlm : len ≤ m := by rw [hmm]; simpa using hl
    rw [Try.cellsSp] at hx
    have each : ∀ i, i < len → ∃ x, SpIn x ∧ ∀ j, j < 4 → W.cell? ((ad.add (i * 4)).add j) = (SpV x)[j]? := fun i hi => by
      obtain ⟨cs, h1, h2⟩ := hx i (by omega)
      obtain ⟨_, hlen, hcell⟩ := World.cells?_some h1
      obtain ⟨c0, c1, c2, c3, rfl⟩ := listN4 hlen
      obtain ⟨x, em, hi2⟩ := sp_at h2
      refine ⟨x, hi2, fun j hj => ?_⟩
      rw [hcell j hj, em]
      simp
    have hspot : 0 < len → ad.spot = none := fun h0 => by
      obtain ⟨x, _, hc⟩ := each 0 h0
      have := hc 0 (by omega)
      obtain ⟨b, off, spot⟩ := ad
      have h3 : ∃ u, (SpV x)[0]? = some u := ⟨_, rfl⟩
      obtain ⟨u, hu⟩ := h3
      rw [hu] at this
      simpa [Addr.add] using World.cell?_spot this
    have lt : ∀ i : Fin len, i.1 < len := fun i => i.2
    refine ⟨some ad, len, cap, List.ofFn fun i : Fin len => (each i.1 i.2).choose, rfl, by simp, hl, by unfold maxLen at hm; omega, (fun e => by cases e), fun i hi => ?_, fun i hi => ?_⟩
    · have hi' : i < len := by simpa using hi
      have hs := hspot (by omega)
      obtain ⟨b, off, spot⟩ := ad
      simp only at hs
      subst hs
      refine ⟨b, off, rfl, fun j hj => ?_⟩
      have e : (⟨b, off + i * 4 + j, none⟩ : Addr) = ((⟨b, off, none⟩ : Addr).add (i * 4)).add j := by rw [Go.WideShapes.add_plain, Go.WideShapes.add_plain]
      rw [List.getElem_ofFn, e]
      exact (each i hi').choose_spec.2 j hj
    · have hi' : i < len := by simpa using hi
      rw [List.getElem_ofFn]
      exact (each i hi').choose_spec.1
theorem step_open {b0 : Nat} {v : Value} {d : DataW H} {ps : List MemPlace} (hv : Value.okWide Try.prog W .any b0 36 v) (h : DataW.Trod enc Try.prog W 0 (fun _ => true) true 36 v d ps) :
    ∃ s : Sp, v = .agg (SpV s) ∧ SpIn s := by
  obtain ⟨cs, rfl, hsz⟩ := okWide_struct Try.underlying36 hv
  rw [Try.cellsSp] at hsz
  obtain ⟨c0, c1, c2, c3, rfl⟩ := arrayN4 hsz
  obtain ⟨fuel, hf⟩ := h
  obtain ⟨s, em, hm⟩ := sp_at hf
  refine ⟨s, ?_, hm⟩
  congr 1
  exact Array.toList_inj.1 em
theorem inum_open {b0 : Nat} {v : Value} {d : DataW H} {ps : List MemPlace} (hv : Value.okWide Try.prog W .any b0 3 v) (h : DataW.Trod enc Try.prog W 0 (fun _ => true) true 3 v d ps) :
    ∃ n : Int, v = .int .i64 n ∧ isI n := by
  obtain ⟨a, h1, h2, _, h4⟩ := open_int Try.underlying3 hv h
  have := bounds_i64 h4
  exact ⟨a, h1, by omega, by omega⟩
theorem jnum_open {b0 : Nat} {v : Value} {d : DataW H} {ps : List MemPlace} (hv : Value.okWide Try.prog W .any b0 2 v) (h : DataW.Trod enc Try.prog W 0 (fun _ => true) true 2 v d ps) :
    ∃ n : Int, v = .int .i64 n ∧ isI n := by
  obtain ⟨a, h1, h2, _, h4⟩ := open_int Try.underlying2 hv h
  have := bounds_i64 h4
  exact ⟨a, h1, by omega, by omega⟩
end Args
theorem Lst.below {w w' : World} {a : Option Addr} {len cap : Nat} {xs : List Sp} (h : Lst w a len cap 4 xs SpV SpIn) (hb : Below w.heap.size w w') : Lst w' a len cap 4 xs SpV SpIn :=
  ⟨h.size, h.room, h.most, h.bare, fun i hi => by
    obtain ⟨b, off, ha, hc⟩ := h.cell i hi
    refine ⟨b, off, ha, fun j hj => ?_⟩
    have h1 := hc j hj
    have h2 : ∃ u, (SpV xs[i])[j]? = some u := by
      obtain rfl | rfl | rfl | rfl : j = 0 ∨ j = 1 ∨ j = 2 ∨ j = 3 := by omega
      · exact ⟨_, rfl⟩
      · exact ⟨_, rfl⟩
      · exact ⟨_, rfl⟩
      · exact ⟨_, rfl⟩
    obtain ⟨u, hu⟩ := h2
    rw [hu] at h1 ⊢
    exact (hb.cell (World.block_lt_of_cell? _ _ h1)).trans h1, h.inn⟩
theorem Lst.at {w : World} {a : Option Addr} {len cap : Nat} {xs : List Sp} (h : Lst w a len cap 4 xs SpV SpIn) {i : Nat} (hi : i < len) : ∃ b off s, a = some ⟨b, off, none⟩ ∧ xs[i]? = some s ∧ SpIn s ∧ w.cell? ⟨b, off + i * 4, none⟩ = some (.int .u8 s.kd) ∧ w.cell? ⟨b, off + i * 4 + 1, none⟩ = some (.int .i64 s.later) ∧ w.cell? ⟨b, off + i * 4 + 2, none⟩ = some (.int .u64 s.ses) ∧ w.cell? ⟨b, off + i * 4 + 3, none⟩ = some (.int .u64 s.rep) := by
  have hx : i < xs.length := by rw [h.size]; exact hi
  obtain ⟨b, off, e, hc⟩ := h.cell i hx
  exact ⟨b, off, xs[i], e, List.getElem?_eq_getElem hx, h.inn i hx, hc 0 (by omega), hc 1 (by omega), hc 2 (by omega), hc 3 (by omega)⟩
theorem short_any (a : Option Addr) (len cap : Nat) (W : World) (r1 : len ≤ cap) (r2 : cap ≤ 9223372036854775807) : Calls Try.prog 9 #[.slice a len cap] W fun e w' => e = .returned (.slice a (min len 150) cap) ∧ w' = W := by
  by_cases hc : 150 < len
  · rw [show min len 150 = 150 by omega]
    have hc' : (150 : Int) < (len : Int) := by omega
    go_enter Try.func9, Try.ntmps9
    go_wp2
    go_ret
    exact ⟨rfl, rfl⟩
  · rw [show min len 150 = len by omega]
    have hc' : ¬ (150 : Int) < (len : Int) := by omega
    go_enter Try.func9, Try.ntmps9
    go_wp2
    go_ret
    exact ⟨rfl, rfl⟩
/-- A table that is newer than the statement's arguments. -/
structure AfS (w : World) (B room : Nat) (keep : Int) (M : Nat) (T : Int) (L : List Bd) (W : World) : Prop where
  tb : TbAt W B room keep T M L
  lo : ∀ k, tbF B M k → w.heap.size ≤ k
  bel : Below w.heap.size w W
theorem AfS.below {w : World} {B room : Nat} {keep : Int} {M : Nat} {T : Int} {L : List Bd} {W W' : World} (h : AfS w B room keep M T L W) (hb : Below W.heap.size W W') : AfS w B room keep M T L W' := ⟨h.tb.below hb, h.lo, h.bel.trans (hb.mono h.bel.size)⟩
theorem AfS.step {w : World} {B room : Nat} {keep : Int} {M : Nat} {T T' : Int} {L L' : List Bd} {W W' : World} (h : AfS w B room keep M T L W) (ho : TbO W B room keep M T' L' W') : AfS w B room keep M T' L' W' := ⟨ho.1, h.lo, h.bel.trans (ho.2.to h.lo h.bel.size)⟩
theorem AfS.new {w W W' : World} {room : Nat} {keep : Int} (hb : Below w.heap.size w W) (h : TbAt W' (W.heap.size + 1) room keep 0 W.heap.size [] ∧ Below W.heap.size W W') : AfS w (W.heap.size + 1) room keep W.heap.size 0 [] W' := ⟨h.1, by
  have := hb.size
  rintro k (rfl | rfl) <;> omega, hb.trans (h.2.mono hb.size)⟩
set_option maxHeartbeats 4000000 in
theorem alive18_any (W : World) : Calls Try.prog 8 #[] W fun e w' => e = .returned (.bool true) ∧ Hid (Below W.heap.size W w') := by
  have hN := tnew_yes 2 10 W (by omega) (by omega)
  go_enter Try.func8, Try.ntmps8
  go_wp2_with fail
  refine hN.mono ?_
  rintro r w1 ⟨rfl, H1⟩
  clear hN
  have HS1 := hid (AfS.new (Below.refl _ _) H1.out)
  clear H1
  obtain ⟨B, HB⟩ : ∃ B, Hid (W.heap.size + 1 = B) := ⟨_, rfl⟩
  rw [HB.out] at HS1
  rw [HB.out]
  obtain ⟨M, HS⟩ : ∃ M, Hid (AfS W B 2 10 M 0 [] w1) := ⟨_, HS1.out⟩
  clear HS1 HB
  have hBi := tbind_any HS.out.tb 0 (s := 5) (r := 7) ⟨by omega, by omega⟩ ⟨by omega, by omega⟩
  go_wp2_with fail
  with_reducible refine hBi.mono ?_
  rintro r w2 ⟨rfl, H2⟩
  obtain ⟨L2, hp2, ho2⟩ := H2.out
  have e2 : L2 = [⟨5, 7, 10⟩] := hp2.one (.inr (.inl ⟨rfl, by simp [endL], rfl⟩))
  subst e2
  have HS2 := hid (HS.out.step ho2)
  clear hBi H2 hp2 ho2 HS
  have hF := tfind_any HS2.out.tb 9 (s := 5) ⟨by omega, by omega⟩
  have e3 : timeZ (timeZ 0 0) 9 = 9 := by decide
  have e4 : endL 9 [⟨5, 7, 10⟩] = [⟨5, 7, 10⟩] := by simp [endL]
  have e5 : useB [⟨5, 7, 10⟩] 5 (9 + 10) = [⟨5, 7, 19⟩] := by simp [useB]
  have e6 : lk [⟨5, 7, 10⟩] 5 = some (7, 10) := by simp [lk]
  rw [e3, e4, e5, e6] at hF
  simp only [Option.getD_some, Option.isSome_some] at hF
  clear e3 e4 e5 e6
  go_wp2_with fail
  with_reducible refine hF.mono ?_
  rintro r w3 ⟨rfl, H3⟩
  have HS3 := hid (HS2.out.step H3.out)
  clear hF H3 HS2
  have hF := tfind_any HS3.out.tb 19 (s := 5) ⟨by omega, by omega⟩
  have e3 : timeZ 9 19 = 19 := by decide
  have e4 : endL 19 [⟨5, 7, 19⟩] = [] := by simp [endL]
  have e6 : lk [] 5 = none := rfl
  rw [e3, e4, e6] at hF
  simp only [Option.getD_none, Option.isSome_none] at hF
  clear e3 e4 e6
  go_wp2_with fail
  with_reducible refine hF.mono ?_
  rintro r w4 ⟨rfl, H4⟩
  have HE := hid (HS3.out.step H4.out).bel
  clear hF H4 HS3
  go_wp2_with fail
  go_ret
  exact ⟨rfl, HE⟩
/-- A pointer to no table, or to one that New did not give. -/
def TbNo (W : World) (p : Option Addr) : Prop := p = none ∨ ∃ B, p = some ⟨B, 0, none⟩ ∧ W.cell? ⟨B, 0, none⟩ = some (.int .i64 0)
theorem TbNo.below {W W' : World} {p : Option Addr} (h : TbNo W p) (hb : Below W.heap.size W W') : TbNo W' p := h.imp id fun ⟨B, e, hc⟩ => ⟨B, e, (hb.cell (World.block_lt_of_cell? _ _ hc)).trans hc⟩
theorem tmade_no {W : World} {p : Option Addr} (h : TbNo W p) : Calls Try.prog 18 #[.pointer p] W fun r w' => r = .returned (.bool false) ∧ w' = W := by
  rcases h with rfl | ⟨B, rfl, hc⟩
  · exact tmade_nil W
  · exact tmade_zero hc
theorem tno_find {W : World} {p : Option Addr} (h : TbNo W p) (n s : Int) : Calls Try.prog 10 #[.pointer p, .int .i64 n, .int .u64 s] W fun r w' => r = .returned (.tuple #[.int .u64 0, .bool false]) ∧ w' = W := by
  have hM := tmade_no h
  clear h
  go_enter Try.func10, Try.ntmps10
  go_wp2_with fail
  refine hM.mono ?_
  rintro r w1 ⟨rfl, rfl⟩
  go_wp2_with fail
  go_ret2
  exact ⟨rfl, rfl⟩
theorem tno_bind {W : World} {p : Option Addr} (h : TbNo W p) (n s x : Int) : Calls Try.prog 14 #[.pointer p, .int .i64 n, .int .u64 s, .int .u64 x] W fun r w' => r = .returned (.bool false) ∧ w' = W := by
  have hM := tmade_no h
  clear h
  go_enter Try.func14, Try.ntmps14
  go_wp2_with fail
  refine hM.mono ?_
  rintro r w1 ⟨rfl, rfl⟩
  go_wp2_with fail
  go_ret
  exact ⟨rfl, rfl⟩
theorem tno_len {W : World} {p : Option Addr} (h : TbNo W p) (n : Int) : Calls Try.prog 16 #[.pointer p, .int .i64 n] W fun r w' => r = .returned (.int .i64 0) ∧ w' = W := by
  have hM := tmade_no h
  clear h
  go_enter Try.func16, Try.ntmps16
  go_wp2_with fail
  refine hM.mono ?_
  rintro r w1 ⟨rfl, rfl⟩
  go_wp2_with fail
  go_ret
  exact ⟨rfl, rfl⟩
theorem tno_now {W : World} {p : Option Addr} (h : TbNo W p)  : Calls Try.prog 17 #[.pointer p] W fun r w' => r = .returned (.int .i64 0) ∧ w' = W := by
  have hM := tmade_no h
  clear h
  go_enter Try.func17, Try.ntmps17
  go_wp2_with fail
  refine hM.mono ?_
  rintro r w1 ⟨rfl, rfl⟩
  go_wp2_with fail
  go_ret
  exact ⟨rfl, rfl⟩
theorem tno_forget {W : World} {p : Option Addr} (h : TbNo W p) (n x : Int) : Calls Try.prog 12 #[.pointer p, .int .i64 n, .int .u64 x] W fun r w' => r = .returned (.int .i64 0) ∧ Hid (Below W.heap.size W w') := by
  obtain ⟨w1, hw1⟩ : ∃ w1, w1 = W.alloc (.cells #[.int .u64 x] 34) := ⟨_, rfl⟩
  have hb1 : Below W.heap.size W w1 := by rw [hw1]; exact (Below.refl _ _).alloc (Nat.le_refl _) _
  have hM := tmade_no (h.below hb1)
  have HB := hid hb1
  clear h hb1
  go_enter Try.func12, Try.ntmps12
  go_wp2_with fail
  rw [← hw1]
  clear hw1
  refine hM.mono ?_
  rintro e w2 ⟨rfl, rfl⟩
  go_wp2_with fail
  go_ret
  exact ⟨rfl, HB⟩
end Go.Proofs.Ytfnbofhppfjmgaa
