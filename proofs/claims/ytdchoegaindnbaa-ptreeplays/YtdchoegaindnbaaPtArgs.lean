/-
  Arguments of stage 17's statements: steps, numbers; text, short.
-/
import Derived.Test.YtdchoegaindnbaaPtPut2
import Derived.Deep.Slices
import Derived.ProofKit
namespace Go.Proofs.Ytdchoegaindnbaa
open Go.RowKit
set_option linter.unusedVariables false
set_option maxRecDepth 1000000

theorem arrayN3 {α : Type} {cs : Array α} (h : cs.size = 3) : ∃ c0 c1 c2, cs = #[c0, c1, c2] := by
  obtain ⟨l⟩ := cs
  match l, h with
  | [c0, c1, c2], _ => exact ⟨c0, c1, c2, rfl⟩
theorem listN3 {α : Type} {cs : List α} (h : cs.length = 3) : ∃ c0 c1 c2, cs = [c0, c1, c2] := by
  match cs, h with
  | [c0, c1, c2], _ => exact ⟨c0, c1, c2, rfl⟩
/-- The slice reads as these structs, k cells each. -/
structure Lst {α : Type} (w : World) (a : Option Addr) (len cap k : Nat) (xs : List α) (V : α → Array Value) (I : α → Prop) : Prop where
  size : xs.length = len
  room : len ≤ cap
  most : cap ≤ 9223372036854775807
  bare : a = none → len = 0 ∧ cap = 0
  cell : ∀ i (hi : i < xs.length), ∃ b off, a = some ⟨b, off, none⟩ ∧ ∀ j, j < k → w.cell? ⟨b, off + i * k + j, none⟩ = (V xs[i])[j]?
  inn : ∀ i (hi : i < xs.length), I xs[i]
/-- A step: its kind, its tokens, its replica. -/
structure Sp where
  kd : Int
  ap : Option Addr
  lp : Nat
  cp : Nat
  ts : List Int
  rep : Int
/-- Its cells. -/
def SpV (s : Sp) : Array Value := #[.int .u8 s.kd, .slice s.ap s.lp s.cp, .int .u64 s.rep]
/-- What is known of it. -/
structure SpIn (w : World) (s : Sp) : Prop where
  rd : Reads .i64 w s.ap s.lp s.cp s.ts
  is : isIs s.ts
  kd : 0 ≤ s.kd ∧ s.kd ≤ 255
  rep : isU s.rep
theorem SpIn.below {w w' : World} {s : Sp} (h : SpIn w s) (hb : Below w.heap.size w w') : SpIn w' s := ⟨h.rd.below hb, h.is, h.kd, h.rep⟩
theorem Try.cellsNs : Try.prog.cellsOf 32 = 1 := by kernel_rfl
theorem Try.cellsU8 : Try.prog.cellsOf 5 = 1 := by kernel_rfl
theorem Try.cellsU1 : Try.prog.cellsOf 33 = 1 := by kernel_rfl
theorem Try.cellsSp : Try.prog.cellsOf 35 = 3 := by kernel_rfl
theorem at_some3 {α : Type} {xs : List α} {n : Nat} (h : xs.length = n) {i : Nat} (hi : i < n) : ∃ y, xs[i]? = some y := ⟨_, List.getElem?_eq_getElem (by omega)⟩
section Args
open Go.ChangeShapes Go.WideShapes Go.ChangeAt
variable {H : Type} {enc : TypeId × Value → H} {W : World}
theorem eu64_at {fuel : Nat} {c : Value} {x : DataW H × List MemPlace} (h : DataW.trod enc Try.prog W 0 (fun _ => true) true fuel 33 [c] = some x) : ∃ n : Int, c = .int .u64 n ∧ isU n := by
  obtain ⟨n, hc, _, hw⟩ := DataW.trod_int Try.underlying33 h
  simp at hc
  have := bounds_u64 hw
  exact ⟨n, hc, by omega, by omega⟩
theorem eint_at {fuel : Nat} {c : Value} {x : DataW H × List MemPlace} (h : DataW.trod enc Try.prog W 0 (fun _ => true) true fuel 3 [c] = some x) : ∃ n : Int, c = .int .i64 n ∧ isI n := by
  obtain ⟨n, hc, _, hw⟩ := DataW.trod_int Try.underlying3 h
  simp at hc
  have := bounds_i64 hw
  exact ⟨n, hc, by omega, by omega⟩
theorem eu8_at {fuel : Nat} {c : Value} {x : DataW H × List MemPlace} (h : DataW.trod enc Try.prog W 0 (fun _ => true) true fuel 5 [c] = some x) : ∃ n : Int, c = .int .u8 n ∧ 0 ≤ n ∧ n ≤ 255 := by
  obtain ⟨n, hc, _, hw⟩ := DataW.trod_int Try.underlying5 h
  simp at hc
  have := bounds_u8 hw
  exact ⟨n, hc, by omega, by omega⟩
theorem nums_at {held : Bool} {fuel : Nat} {c : Value} {x : DataW H × List MemPlace} (h : DataW.trod enc Try.prog W 0 (fun _ => true) held fuel 32 [c] = some x) : ∃ a len cap zs, c = .slice a len cap ∧ Reads .i64 W a len cap zs ∧ isIs zs := by
  rcases Go.ChangeShapes.open_ints Try.underlying32 Try.underlying3 (by kernel_rfl) h with ⟨hcs, _⟩ | ⟨ad, l, k, zs, hcs, _, hl, hm, hz, _, hx, hw⟩
  · simp at hcs
    subst hcs
    exact ⟨none, 0, 0, [], rfl, Reads.nil _ _, fun x hx => by simp at hx⟩
  · simp at hcs
    subst hcs
    have h2 := Reads.row (w := W) (zs := zs) (.inr ⟨ad, rfl, hl, hm, by simpa using hz, hx, hw⟩)
    exact ⟨_, _, _, _, rfl, h2.1, fun y hy => by have := bounds_i64 (h2.2 y hy); exact ⟨by omega, by omega⟩⟩
theorem sp_at {fuel : Nat} {c0 c1 c2 : Value} {x : DataW H × List MemPlace} (hf : DataW.trod enc Try.prog W 0 (fun _ => true) true fuel 35 [c0, c1, c2] = some x) :
    ∃ s : Sp, [c0, c1, c2] = (SpV s).toList ∧ SpIn W s := by
  obtain ⟨xs, n, _, _, _, hl, hF⟩ := DataW.trod_struct Try.underlying35 hf
  have hl : xs.length = 3 := hl
  obtain ⟨y0, e0⟩ := at_some3 hl (i := 0) (by omega)
  obtain ⟨y1, e1⟩ := at_some3 hl (i := 1) (by omega)
  obtain ⟨y2, e2⟩ := at_some3 hl (i := 2) (by omega)
  have g0 : DataW.trod enc Try.prog W 0 (fun _ => true) true n 5 [c0] = some y0 := by
    have g := hF 0 _ rfl
    change DataW.trod enc Try.prog W 0 (fun _ => true) true n 5 (List.take (Try.prog.cellsOf 5) (List.drop 0 [c0, c1, c2])) = xs[0]? at g
    rw [Try.cellsU8, e0] at g
    exact g
  have g1 : DataW.trod enc Try.prog W 0 (fun _ => true) true n 32 [c1] = some y1 := by
    have g := hF 1 _ rfl
    change DataW.trod enc Try.prog W 0 (fun _ => true) true n 32 (List.take (Try.prog.cellsOf 32) (List.drop 1 [c0, c1, c2])) = xs[1]? at g
    rw [Try.cellsNs, e1] at g
    exact g
  have g2 : DataW.trod enc Try.prog W 0 (fun _ => true) true n 33 [c2] = some y2 := by
    have g := hF 2 _ rfl
    change DataW.trod enc Try.prog W 0 (fun _ => true) true n 33 (List.take (Try.prog.cellsOf 33) (List.drop 2 [c0, c1, c2])) = xs[2]? at g
    rw [Try.cellsU1, e2] at g
    exact g
  clear hF
  obtain ⟨kd, rfl, k1, k2⟩ := eu8_at g0
  obtain ⟨ap, lp, cp, ts, rfl, rp, ip⟩ := nums_at g1
  obtain ⟨rp2, rfl, rb⟩ := eu64_at g2
  exact ⟨⟨kd, ap, lp, cp, ts, rp2⟩, rfl, rp, ip, ⟨k1, k2⟩, rb⟩
theorem steps17_open {b0 : Nat} {v : Value} {d : DataW H} {ps : List MemPlace} (hv : Value.okWide Try.prog W .any b0 22 v) (h : DataW.Trod enc Try.prog W 0 (fun _ => true) true 22 v d ps) :
    ∃ a len cap xs, v = .slice a len cap ∧ Lst W a len cap 3 xs SpV (fun s => SpIn W s) := by
  obtain ⟨a, len, cap, rfl⟩ := okWide_slice Try.underlying22 hv
  obtain ⟨fuel, hf⟩ := h
  change DataW.trod enc Try.prog W 0 (fun _ => true) true fuel 22 [.slice a len cap] = _ at hf
  rcases Go.Deep.open_slice Try.underlying22 hf with ⟨hcs, _⟩ | ⟨ad, l, c, m, n, D, Pl, hcs, _, hl, hm, hmm, _, hx⟩
  · simp at hcs
    obtain ⟨rfl, rfl, rfl⟩ := hcs
    exact ⟨none, 0, 0, [], rfl, rfl, Nat.le_refl _, by omega, fun _ => ⟨rfl, rfl⟩, fun i hi => absurd hi (by simp), fun i hi => absurd hi (by simp)⟩
  · simp at hcs
    obtain ⟨rfl, rfl, rfl⟩ := hcs
    have hlm : len ≤ m := by rw [hmm]; simpa using hl
    rw [Try.cellsSp] at hx
    have each : ∀ i, i < len → ∃ x, (fun s => SpIn W s) x ∧ ∀ j, j < 3 → W.cell? ((ad.add (i * 3)).add j) = (SpV x)[j]? := fun i hi => by
      obtain ⟨cs, h1, h2⟩ := hx i (by omega)
      obtain ⟨_, hlen, hcell⟩ := World.cells?_some h1
      obtain ⟨c0, c1, c2, rfl⟩ := listN3 hlen
      obtain ⟨x, em, hi2⟩ := sp_at h2
      refine ⟨x, hi2, fun j hj => ?_⟩
      rw [hcell j hj, em]
      simp
    have hspot : 0 < len → ad.spot = none := fun h0 => by
      obtain ⟨x, _, hc⟩ := each 0 h0
      have := hc 0 (by omega)
      obtain ⟨b, off, spot⟩ := ad
      have h3 : ∃ u, (SpV x)[0]? = some u := ⟨_, rfl⟩
      obtain ⟨u, hu⟩ := h3
      rw [hu] at this
      simpa [Addr.add] using World.cell?_spot this
    have lt : ∀ i : Fin len, i.1 < len := fun i => i.2
    refine ⟨some ad, len, cap, List.ofFn fun i : Fin len => (each i.1 i.2).choose, rfl, by simp, hl, by unfold maxLen at hm; omega, (fun e => by cases e), fun i hi => ?_, fun i hi => ?_⟩
    · have hi' : i < len := by simpa using hi
      have hs := hspot (by omega)
      obtain ⟨b, off, spot⟩ := ad
      simp only at hs
      subst hs
      refine ⟨b, off, rfl, fun j hj => ?_⟩
      have e : (⟨b, off + i * 3 + j, none⟩ : Addr) = ((⟨b, off, none⟩ : Addr).add (i * 3)).add j := by rw [Go.WideShapes.add_plain, Go.WideShapes.add_plain]
      rw [List.getElem_ofFn, e]
      exact (each i hi').choose_spec.2 j hj
    · have hi' : i < len := by simpa using hi
      rw [List.getElem_ofFn]
      exact (each i hi').choose_spec.1
theorem step_open {b0 : Nat} {v : Value} {d : DataW H} {ps : List MemPlace} (hv : Value.okWide Try.prog W .any b0 35 v) (h : DataW.Trod enc Try.prog W 0 (fun _ => true) true 35 v d ps) :
    ∃ s : Sp, v = .agg (SpV s) ∧ SpIn W s := by
  obtain ⟨cs, rfl, hsz⟩ := okWide_struct Try.underlying35 hv
  rw [Try.cellsSp] at hsz
  obtain ⟨c0, c1, c2, rfl⟩ := arrayN3 hsz
  obtain ⟨fuel, hf⟩ := h
  obtain ⟨s, em, hm⟩ := sp_at hf
  refine ⟨s, ?_, hm⟩
  congr 1
  exact Array.toList_inj.1 em
theorem unum_open {b0 : Nat} {v : Value} {d : DataW H} {ps : List MemPlace} (hv : Value.okWide Try.prog W .any b0 33 v) (h : DataW.Trod enc Try.prog W 0 (fun _ => true) true 33 v d ps) :
    ∃ n : Int, v = .int .u64 n ∧ isU n := by
  obtain ⟨a, h1, h2, _, h4⟩ := open_int Try.underlying33 hv h
  have := bounds_u64 h4
  exact ⟨a, h1, by omega, by omega⟩
theorem inum_open {b0 : Nat} {v : Value} {d : DataW H} {ps : List MemPlace} (hv : Value.okWide Try.prog W .any b0 3 v) (h : DataW.Trod enc Try.prog W 0 (fun _ => true) true 3 v d ps) :
    ∃ n : Int, v = .int .i64 n ∧ isI n := by
  obtain ⟨a, h1, h2, _, h4⟩ := open_int Try.underlying3 hv h
  have := bounds_i64 h4
  exact ⟨a, h1, by omega, by omega⟩
theorem bnum_open {b0 : Nat} {v : Value} {d : DataW H} {ps : List MemPlace} (hv : Value.okWide Try.prog W .any b0 5 v) (h : DataW.Trod enc Try.prog W 0 (fun _ => true) true 5 v d ps) :
    ∃ n : Int, v = .int .u8 n ∧ 0 ≤ n ∧ n ≤ 255 := by
  obtain ⟨a, h1, h2, _, h4⟩ := open_int Try.underlying5 hv h
  have := bounds_u8 h4
  exact ⟨a, h1, by omega, by omega⟩
end Args
theorem Lst.below {w w' : World} {a : Option Addr} {len cap : Nat} {xs : List Sp} (h : Lst w a len cap 3 xs SpV (fun s => SpIn w s)) (hb : Below w.heap.size w w') : Lst w' a len cap 3 xs SpV (fun s => SpIn w' s) :=
  ⟨h.size, h.room, h.most, h.bare, fun i hi => by
    obtain ⟨b, off, ha, hc⟩ := h.cell i hi
    refine ⟨b, off, ha, fun j hj => ?_⟩
    have h1 := hc j hj
    have h2 : ∃ u, (SpV xs[i])[j]? = some u := by
      obtain rfl | rfl | rfl : j = 0 ∨ j = 1 ∨ j = 2 := by omega
      · exact ⟨_, rfl⟩
      · exact ⟨_, rfl⟩
      · exact ⟨_, rfl⟩
    obtain ⟨u, hu⟩ := h2
    rw [hu] at h1 ⊢
    exact (hb.cell (World.block_lt_of_cell? _ _ h1)).trans h1, fun i hi => (h.inn i hi).below hb⟩
theorem stext_any (s : Sp) (W : World) (hs : SpIn W s) : Calls Try.prog 12 #[.agg #[.int .u8 s.kd, .slice s.ap s.lp s.cp, .int .u64 s.rep]] W fun e w' => e = .returned (.slice s.ap (min s.lp 40) s.cp) ∧ Hid (Below W.heap.size W w') := by
  have r1 := hs.rd.room
  have r2 := hs.rd.most
  have HE : Hid (Below W.heap.size W (W.alloc (.cells #[.int .u8 s.kd, .slice s.ap s.lp s.cp, .int .u64 s.rep] 35))) := (Below.refl _ _).alloc (Nat.le_refl _) _
  clear hs
  generalize s.kd = kd at *
  generalize s.ap = ap at *
  generalize s.lp = lp at *
  generalize s.cp = cp at *
  generalize s.rep = rp at *
  have HM : Hid ((min (lp : Int) 40).toNat = min lp 40) := by unfold Hid; omega
  go_enter Try.func12, Try.ntmps12
  go_wp2
  go_ret
  exact ⟨by rw [← HM.out]; rfl, HE⟩
theorem short_any (a : Option Addr) (len cap : Nat) (W : World) (r1 : len ≤ cap) (r2 : cap ≤ 9223372036854775807) : Calls Try.prog 9 #[.slice a len cap] W fun e w' => e = .returned (.slice a (min len 60) cap) ∧ w' = W := by
  have HM : Hid ((min (len : Int) 60).toNat = min len 60) := by unfold Hid; omega
  go_enter Try.func9, Try.ntmps9
  go_wp2
  go_ret
  exact ⟨by rw [← HM.out]; rfl, rfl⟩
end Go.Proofs.Ytdchoegaindnbaa
