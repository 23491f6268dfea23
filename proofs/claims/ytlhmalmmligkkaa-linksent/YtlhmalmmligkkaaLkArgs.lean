/-
  Arguments of stage 21's statements: steps, messages, numbers; short. A slice that comes in has so many bytes at most (the form's own reach).
-/
import Derived.Test.YtlhmalmmligkkaaLkBu
import Derived.Deep.Slices
import Derived.ProofKit
import Derived.SizedLaws
namespace Go.Proofs.Ytlhmalmmligkkaa
open Go.RowKit
set_option linter.unusedVariables false
set_option maxRecDepth 1000000

def isI (n : Int) : Prop := -9223372036854775808 ≤ n ∧ n ≤ 9223372036854775807
def isW (n : Int) : Prop := 0 ≤ n ∧ n ≤ 4294967295
theorem listN5 {α : Type} {cs : List α} (h : cs.length = 5) : ∃ c0 c1 c2 c3 c4, cs = [c0, c1, c2, c3, c4] := by
  match cs, h with
  | [c0, c1, c2, c3, c4], _ => exact ⟨c0, c1, c2, c3, c4, rfl⟩
theorem listN1 {α : Type} {cs : List α} (h : cs.length = 1) : ∃ c0, cs = [c0] := by
  match cs, h with
  | [c0], _ => exact ⟨c0, rfl⟩
/-- The slice reads as these structs, k cells each. -/
structure Lst {α : Type} (w : World) (a : Option Addr) (len cap k : Nat) (xs : List α) (V : α → Array Value) (I : α → Prop) : Prop where
  size : xs.length = len
  room : len ≤ cap
  most : cap ≤ 9223372036854775807
  bare : a = none → len = 0 ∧ cap = 0
  cell : ∀ i (hi : i < xs.length), ∃ b off, a = some ⟨b, off, none⟩ ∧ ∀ j, j < k → w.cell? ⟨b, off + i * k + j, none⟩ = (V xs[i])[j]?
  inn : ∀ i (hi : i < xs.length), I xs[i]
theorem Lst.below {α : Type} {w w' : World} {a : Option Addr} {len cap k : Nat} {xs : List α} {V : α → Array Value} {I J : α → Prop} (h : Lst w a len cap k xs V I) (hV : ∀ s, (V s).size = k) (hb : Below w.heap.size w w') (hJ : ∀ s, I s → J s) : Lst w' a len cap k xs V J :=
  ⟨h.size, h.room, h.most, h.bare, fun i hi => by
    obtain ⟨b, off, ha, hc⟩ := h.cell i hi
    refine ⟨b, off, ha, fun j hj => ?_⟩
    have h1 := hc j hj
    have h2 : ∃ u, (V xs[i])[j]? = some u := ⟨_, Array.getElem?_eq_getElem (by rw [hV]; exact hj)⟩
    obtain ⟨u, hu⟩ := h2
    rw [hu] at h1 ⊢
    exact (hb.cell (World.block_lt_of_cell? _ _ h1)).trans h1, fun i hi => hJ _ (h.inn i hi)⟩
/-- A slice of bytes, and the bytes. -/
structure Bp where
  ap : Option Addr
  lp : Nat
  cp : Nat
  zs : List Int
def BpV (s : Bp) : Array Value := #[.slice s.ap s.lp s.cp]
structure BpIn (w : World) (s : Bp) : Prop where
  rd : Reads .u8 w s.ap s.lp s.cp s.zs
  bs : IsBytes s.zs
  len : s.lp ≤ 140737488351232
theorem BpIn.below {w w' : World} {s : Bp} (h : BpIn w s) (hb : Below w.heap.size w w') : BpIn w' s := ⟨h.rd.below hb, h.bs, h.len⟩
/-- A step: its kind, its bytes, its place, where its burst begins, its mask. -/
structure Sp where
  kd : Int
  b : Bp
  i : Int
  pl : Int
  msk : Int
def SpV (s : Sp) : Array Value := #[.int .u8 s.kd, .slice s.b.ap s.b.lp s.b.cp, .int .i64 s.i, .int .i64 s.pl, .int .u32 s.msk]
structure SpIn (w : World) (s : Sp) : Prop where
  kd : 0 ≤ s.kd ∧ s.kd ≤ 255
  b : BpIn w s.b
  i : isI s.i
  pl : isI s.pl
  msk : isW s.msk
theorem SpIn.below {w w' : World} {s : Sp} (h : SpIn w s) (hb : Below w.heap.size w w') : SpIn w' s := ⟨h.kd, h.b.below hb, h.i, h.pl, h.msk⟩
theorem SpV_size (s : Sp) : (SpV s).size = 5 := rfl
theorem BpV_size (s : Bp) : (BpV s).size = 1 := rfl
theorem Try.cellsU8 : Try.prog.cellsOf 5 = 1 := by kernel_rfl
theorem Try.cellsU32 : Try.prog.cellsOf 28 = 1 := by kernel_rfl
theorem Try.cellsIn : Try.prog.cellsOf 3 = 1 := by kernel_rfl
theorem Try.cellsBs : Try.prog.cellsOf 36 = 1 := by kernel_rfl
theorem Try.cellsSp : Try.prog.cellsOf 38 = 5 := by kernel_rfl
theorem Try.bytesU8 : Try.prog.bytesOf 5 = 1 := by kernel_rfl
theorem at_some3 {α : Type} {xs : List α} {n : Nat} (h : xs.length = n) {i : Nat} (hi : i < n) : ∃ y, xs[i]? = some y := ⟨_, List.getElem?_eq_getElem (by omega)⟩
theorem weightsAll_mem {H : Type} {P : Program} {e : TypeId} {d : DataW H} : ∀ {ds : List (DataW H)}, d ∈ ds → ∀ n ∈ d.weights P e, n ∈ DataW.weightsAll P e ds
  | [], h, _, _ => by simp at h
  | x :: ds, h, n, hn => by
    simp only [DataW.weightsAll, List.mem_append]
    rcases List.mem_cons.1 h with rfl | h
    · exact Or.inl hn
    · exact Or.inr (weightsAll_mem h n hn)
section Args
open Go.ChangeShapes Go.WideShapes Go.ChangeAt
variable {H : Type} {enc : TypeId × Value → H} {W : World}
theorem eint_at {fuel : Nat} {c : Value} {x : DataW H × List MemPlace} (h : DataW.trod enc Try.prog W 0 (fun _ => true) true fuel 3 [c] = some x) : ∃ n : Int, c = .int .i64 n ∧ isI n := by
  obtain ⟨n, hc, _, hw⟩ := DataW.trod_int Try.underlying3 h
  simp at hc
  have := bounds_i64 hw
  exact ⟨n, hc, by omega, by omega⟩
theorem eu32_at {fuel : Nat} {c : Value} {x : DataW H × List MemPlace} (h : DataW.trod enc Try.prog W 0 (fun _ => true) true fuel 28 [c] = some x) : ∃ n : Int, c = .int .u32 n ∧ isW n := by
  obtain ⟨n, hc, _, hw⟩ := DataW.trod_int Try.underlying28 h
  simp at hc
  have := bounds_u32 hw
  exact ⟨n, hc, by omega, by omega⟩
theorem eu8_at {fuel : Nat} {c : Value} {x : DataW H × List MemPlace} (h : DataW.trod enc Try.prog W 0 (fun _ => true) true fuel 5 [c] = some x) : ∃ n : Int, c = .int .u8 n ∧ 0 ≤ n ∧ n ≤ 255 := by
  obtain ⟨n, hc, _, hw⟩ := DataW.trod_int Try.underlying5 h
  simp at hc
  have := bounds_u8 hw
  exact ⟨n, hc, by omega, by omega⟩
theorem bytes_at {fuel : Nat} {c : Value} {x : DataW H × List MemPlace} (h : DataW.trod enc Try.prog W 0 (fun _ => true) true fuel 36 [c] = some x) (hs : ∀ n ∈ x.1.weights Try.prog 36, n ≤ reachBytes) :
    ∃ s : Bp, [c] = (BpV s).toList ∧ BpIn W s := by
  rcases Go.ChangeShapes.open_ints Try.underlying36 Try.underlying5 Try.cellsU8 h with ⟨hcs, _⟩ | ⟨ad, l, k, zs, hcs, _, hl, hm, hz, hx1, hx, hw⟩
  · simp at hcs
    subst hcs
    exact ⟨⟨none, 0, 0, []⟩, rfl, Reads.nil _ _, fun x hx => by simp at hx, by decide⟩
  · simp at hcs
    subst hcs
    have h2 := Reads.row (w := W) (zs := zs) (.inr ⟨ad, rfl, hl, hm, by simpa using hz, hx, hw⟩)
    have hr := hs ((zs.take l).length + (zs.drop l).length) (by
      rw [hx1]
      simp only [DataW.weights, Try.underlying36, Try.bytesU8, lits, List.length_map, Nat.mul_one]
      exact List.mem_cons_self ..)
    have hlen : l ≤ 140737488351232 := by
      rw [← List.length_append, List.take_append_drop] at hr
      have : zs.length = k := by simpa using hz
      simp only [reachBytes] at hr
      omega
    exact ⟨⟨_, _, _, _⟩, rfl, h2.1, bytes_of_wf h2.2, hlen⟩
theorem sp_at {fuel : Nat} {cs : List Value} {x : DataW H × List MemPlace} (hf : DataW.trod enc Try.prog W 0 (fun _ => true) true fuel 38 cs = some x) (hcl : cs.length = 5) (hs : ∀ n ∈ x.1.weights Try.prog 38, n ≤ reachBytes) :
    ∃ s : Sp, cs = (SpV s).toList ∧ SpIn W s := by
  obtain ⟨c0, c1, c2, c3, c4, rfl⟩ := listN5 hcl
  obtain ⟨xs, n, _, hx1, _, hl, hF⟩ := DataW.trod_struct Try.underlying38 hf
  have hl : xs.length = 5 := hl
  obtain ⟨y0, e0⟩ := at_some3 hl (i := 0) (by omega)
  obtain ⟨y1, e1⟩ := at_some3 hl (i := 1) (by omega)
  obtain ⟨y2, e2⟩ := at_some3 hl (i := 2) (by omega)
  obtain ⟨y3, e3⟩ := at_some3 hl (i := 3) (by omega)
  obtain ⟨y4, e4⟩ := at_some3 hl (i := 4) (by omega)
  have g0 : DataW.trod enc Try.prog W 0 (fun _ => true) true n 5 [c0] = some y0 := by
    have g := hF 0 _ rfl
    change DataW.trod enc Try.prog W 0 (fun _ => true) true n 5 (List.take (Try.prog.cellsOf 5) (List.drop 0 [c0, c1, c2, c3, c4])) = xs[0]? at g
    rw [Try.cellsU8, e0] at g
    exact g
  have g1 : DataW.trod enc Try.prog W 0 (fun _ => true) true n 36 [c1] = some y1 := by
    have g := hF 1 _ rfl
    change DataW.trod enc Try.prog W 0 (fun _ => true) true n 36 (List.take (Try.prog.cellsOf 36) (List.drop 1 [c0, c1, c2, c3, c4])) = xs[1]? at g
    rw [Try.cellsBs, e1] at g
    exact g
  have g2 : DataW.trod enc Try.prog W 0 (fun _ => true) true n 3 [c2] = some y2 := by
    have g := hF 2 _ rfl
    change DataW.trod enc Try.prog W 0 (fun _ => true) true n 3 (List.take (Try.prog.cellsOf 3) (List.drop 2 [c0, c1, c2, c3, c4])) = xs[2]? at g
    rw [Try.cellsIn, e2] at g
    exact g
  have g3 : DataW.trod enc Try.prog W 0 (fun _ => true) true n 3 [c3] = some y3 := by
    have g := hF 3 _ rfl
    change DataW.trod enc Try.prog W 0 (fun _ => true) true n 3 (List.take (Try.prog.cellsOf 3) (List.drop 3 [c0, c1, c2, c3, c4])) = xs[3]? at g
    rw [Try.cellsIn, e3] at g
    exact g
  have g4 : DataW.trod enc Try.prog W 0 (fun _ => true) true n 28 [c4] = some y4 := by
    have g := hF 4 _ rfl
    change DataW.trod enc Try.prog W 0 (fun _ => true) true n 28 (List.take (Try.prog.cellsOf 28) (List.drop 4 [c0, c1, c2, c3, c4])) = xs[4]? at g
    rw [Try.cellsU32, e4] at g
    exact g
  clear hF
  have hs1 : ∀ n ∈ y1.1.weights Try.prog 36, n ≤ reachBytes := fun m hm => hs m (by
    rw [hx1]
    simp only [DataW.weights, Try.underlying38]
    refine DataW.weights_mem_each (j := 1) rfl ?_ m hm
    rw [List.getElem?_map, e1]
    rfl)
  obtain ⟨kd, rfl, k1, k2⟩ := eu8_at g0
  obtain ⟨b, eb, ib⟩ := bytes_at g1 hs1
  obtain ⟨i, rfl, ii⟩ := eint_at g2
  obtain ⟨pl, rfl, ip⟩ := eint_at g3
  obtain ⟨mk, rfl, im⟩ := eu32_at g4
  cases eb
  exact ⟨⟨kd, b, i, pl, mk⟩, rfl, ⟨k1, k2⟩, ib, ii, ip, im⟩
theorem lst_open {α : Type} {t e : TypeId} {k : Nat} {V : α → Array Value} {I : α → Prop} (ht : Try.prog.underlying t = some (.slice e)) (hk : Try.prog.cellsOf e = k) (hV : ∀ s, (V s).size = k) (h0 : 0 < k)
    (hEl : ∀ (fuel : Nat) (cs : List Value) (x : DataW H × List MemPlace), DataW.trod enc Try.prog W 0 (fun _ => true) true fuel e cs = some x → cs.length = k → (∀ n ∈ x.1.weights Try.prog e, n ≤ reachBytes) → ∃ s, cs = (V s).toList ∧ I s)
    {b0 : Nat} {v : Value} {d : DataW H} {ps : List MemPlace} (hv : Value.okWide Try.prog W .any b0 t v) (h : DataW.Trod enc Try.prog W 0 (fun _ => true) true t v d ps) (hs : ∀ n ∈ d.weights Try.prog t, n ≤ reachBytes) :
    ∃ a len cap xs, v = .slice a len cap ∧ Lst W a len cap k xs V I := by
  obtain ⟨a, len, cap, rfl⟩ := okWide_slice ht hv
  obtain ⟨fuel, hf⟩ := h
  change DataW.trod enc Try.prog W 0 (fun _ => true) true fuel t [.slice a len cap] = _ at hf
  rcases Go.Deep.open_slice ht hf with ⟨hcs, _⟩ | ⟨ad, l, c, m, n, D, Pl, hcs, _, hl, hm, hmm, hxx, hx⟩
  · simp at hcs
    obtain ⟨rfl, rfl, rfl⟩ := hcs
    exact ⟨none, 0, 0, [], rfl, rfl, Nat.le_refl _, by omega, fun _ => ⟨rfl, rfl⟩, fun i hi => absurd hi (by simp), fun i hi => absurd hi (by simp)⟩
  · simp at hcs
    obtain ⟨rfl, rfl, rfl⟩ := hcs
    have hlm : len ≤ m := by rw [hmm]; simpa using hl
    have hd : d = .slice ((List.range len).map D) ((List.range (m - len)).map fun j => D (len + j)) := congrArg Prod.fst hxx
    rw [hk] at hx
    have hsD : ∀ i, i < len → ∀ n ∈ (D i).weights Try.prog e, n ≤ reachBytes := fun i hi q hq => hs q (by
      rw [hd]
      simp only [DataW.weights, ht, List.mem_cons, List.mem_append]
      exact .inr (.inl (weightsAll_mem (List.mem_map.2 ⟨i, List.mem_range.2 hi, rfl⟩) q hq)))
    have each : ∀ i, i < len → ∃ x, I x ∧ ∀ j, j < k → W.cell? ((ad.add (i * k)).add j) = (V x)[j]? := fun i hi => by
      obtain ⟨cs, h1, h2⟩ := hx i (by omega)
      obtain ⟨_, hlen, hcell⟩ := World.cells?_some h1
      obtain ⟨x, em, hi2⟩ := hEl _ _ _ h2 hlen (hsD i hi)
      refine ⟨x, hi2, fun j hj => ?_⟩
      rw [hcell j hj, em]
      simp
    have hspot : 0 < len → ad.spot = none := fun hlt => by
      obtain ⟨x, _, hc⟩ := each 0 hlt
      have := hc 0 h0
      obtain ⟨b, off, spot⟩ := ad
      have h3 : ∃ u, (V x)[0]? = some u := ⟨_, Array.getElem?_eq_getElem (by rw [hV]; exact h0)⟩
      obtain ⟨u, hu⟩ := h3
      rw [hu] at this
      simpa [Addr.add] using World.cell?_spot this
    refine ⟨some ad, len, cap, List.ofFn fun i : Fin len => (each i.1 i.2).choose, rfl, by simp, hl, by unfold maxLen at hm; omega, (fun e => by cases e), fun i hi => ?_, fun i hi => ?_⟩
    · have hi' : i < len := by simpa using hi
      have hs := hspot (by omega)
      obtain ⟨b, off, spot⟩ := ad
      simp only at hs
      subst hs
      refine ⟨b, off, rfl, fun j hj => ?_⟩
      have e : (⟨b, off + i * k + j, none⟩ : Addr) = ((⟨b, off, none⟩ : Addr).add (i * k)).add j := by rw [Go.WideShapes.add_plain, Go.WideShapes.add_plain]
      rw [List.getElem_ofFn, e]
      exact (each i hi').choose_spec.2 j hj
    · have hi' : i < len := by simpa using hi
      rw [List.getElem_ofFn]
      exact (each i hi').choose_spec.1
theorem steps21_open {b0 : Nat} {v : Value} {d : DataW H} {ps : List MemPlace} (hs : ∀ n ∈ d.weights Try.prog 22, n ≤ reachBytes) (hv : Value.okWide Try.prog W .any b0 22 v) (h : DataW.Trod enc Try.prog W 0 (fun _ => true) true 22 v d ps) :
    ∃ a len cap xs, v = .slice a len cap ∧ Lst W a len cap 5 xs SpV (fun s => SpIn W s) := lst_open Try.underlying22 Try.cellsSp SpV_size (by decide) (fun _ _ _ hf hl hs => sp_at hf hl hs) hv h hs
theorem msgs_open {b0 : Nat} {v : Value} {d : DataW H} {ps : List MemPlace} (hs : ∀ n ∈ d.weights Try.prog 27, n ≤ reachBytes) (hv : Value.okWide Try.prog W .any b0 27 v) (h : DataW.Trod enc Try.prog W 0 (fun _ => true) true 27 v d ps) :
    ∃ a len cap xs, v = .slice a len cap ∧ Lst W a len cap 1 xs BpV (fun s => BpIn W s) := lst_open Try.underlying27 Try.cellsBs BpV_size (by decide) (fun _ _ _ hf hl hs => by
      obtain ⟨c, rfl⟩ := listN1 hl
      exact bytes_at hf hs) hv h hs
theorem step_open {b0 : Nat} {v : Value} {d : DataW H} {ps : List MemPlace} (hs : ∀ n ∈ d.weights Try.prog 38, n ≤ reachBytes) (hv : Value.okWide Try.prog W .any b0 38 v) (h : DataW.Trod enc Try.prog W 0 (fun _ => true) true 38 v d ps) :
    ∃ s : Sp, v = .agg (SpV s) ∧ SpIn W s := by
  obtain ⟨cs, rfl, hsz⟩ := okWide_struct Try.underlying38 hv
  rw [Try.cellsSp] at hsz
  obtain ⟨fuel, hf⟩ := h
  obtain ⟨s, em, hm⟩ := sp_at hf (by first | (simpa using hsz) | (rw [Array.length_toList]; exact hsz) | exact hsz) hs
  refine ⟨s, ?_, hm⟩
  congr 1
  exact Array.toList_inj.1 em
theorem inum_open {b0 : Nat} {v : Value} {d : DataW H} {ps : List MemPlace} (hv : Value.okWide Try.prog W .any b0 3 v) (h : DataW.Trod enc Try.prog W 0 (fun _ => true) true 3 v d ps) :
    ∃ n : Int, v = .int .i64 n ∧ isI n := by
  obtain ⟨a, h1, h2, _, h4⟩ := open_int Try.underlying3 hv h
  have := bounds_i64 h4
  exact ⟨a, h1, by omega, by omega⟩
theorem bnum_open {b0 : Nat} {v : Value} {d : DataW H} {ps : List MemPlace} (hv : Value.okWide Try.prog W .any b0 5 v) (h : DataW.Trod enc Try.prog W 0 (fun _ => true) true 5 v d ps) :
    ∃ n : Int, v = .int .u8 n ∧ 0 ≤ n ∧ n ≤ 255 := by
  obtain ⟨a, h1, h2, _, h4⟩ := open_int Try.underlying5 hv h
  have := bounds_u8 h4
  exact ⟨a, h1, by omega, by omega⟩
end Args
theorem short_any (a : Option Addr) (len cap : Nat) (W : World) (r1 : len ≤ cap) (r2 : cap ≤ 9223372036854775807) : Calls Try.prog 11 #[.slice a len cap] W fun e w' => e = .returned (.slice a (min len 200) cap) ∧ w' = W := by
  by_cases hc : 200 < len
  · rw [show min len 200 = 200 by omega]
    have hc' : (200 : Int) < (len : Int) := by omega
    go_enter Try.func11, Try.ntmps11
    go_wp2
    go_ret
    exact ⟨rfl, rfl⟩
  · rw [show min len 200 = len by omega]
    have hc' : ¬ (200 : Int) < (len : Int) := by omega
    go_enter Try.func11, Try.ntmps11
    go_wp2
    go_ret
    exact ⟨rfl, rfl⟩
end Go.Proofs.Ytlhmalmmligkkaa
