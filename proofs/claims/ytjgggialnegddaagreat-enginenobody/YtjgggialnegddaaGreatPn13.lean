/-
  The texts Asks, JArgs, EnArgs, EnMap of this proof.
-/
import Derived.Test.YtjgggialnegddaaGreatPn11
import Derived.ProofKit
import Derived.Test.YtjgggialnegddaaGreatPn01
import Derived.Deep.Slices
import Derived.Test.YtjgggialnegddaaGreatPn02
set_option linter.unusedVariables false
set_option maxRecDepth 1000000
namespace Go.Proofs.YtjgggialnegddaaGreat
open Go.RowKit
def tokL (c : Cf) (t : Int) : List Int := if 0 ≤ t ∧ t < c.vocab then rowK (fun k => weightZ c.seed 0 t k) c.dim.toNat else []
def plL (c : Cf) (p : Int) : List Int := if 0 ≤ p ∧ p < 256 then rowK (fun k => mulZ (weightZ c.seed 1 p k) 16384) c.dim.toNat else []
def tabL (c : Cf) (la wh : Int) : List (List Int) := if 0 ≤ la ∧ la < c.layers ∧ 0 ≤ wh ∧ wh ≤ 5 then tblK (fun r => rowK (fun k => weightZ c.seed (2 + 6 * la + wh) r k) c.dim.toNat) c.dim.toNat else []
theorem may_parts {c : Cf} (h : mayB c = true) : 2 ≤ c.vocab ∧ c.vocab ≤ 64 ∧ 1 ≤ c.dim ∧ c.dim ≤ 16 ∧ 1 ≤ c.layers ∧ c.layers ≤ 4 := by
 unfold mayB at h
 simp only [Bool.and_eq_true, btw_iff] at h
 omega
theorem tokL_len {c : Cf} (h : mayB c = true) (t : Int) : (tokL c t).length ≤ 16 := by
 have := may_parts h
 unfold tokL
 split
 ·rw [rowK_len]; omega
 ·simp
theorem plL_len {c : Cf} (h : mayB c = true) (t : Int) : (plL c t).length ≤ 16 := by
 have := may_parts h
 unfold plL
 split
 ·rw [rowK_len]; omega
 ·simp
theorem tabL_len {c : Cf} (h : mayB c = true) (la wh : Int) : (tabL c la wh).length ≤ 16 := by
 have := may_parts h
 unfold tabL
 split
 ·rw [tblK_len]; omega
 ·simp
theorem Made.giveso {w w' : World} {n : Nat} {xs : List Int} {e : Ending} (h : Made w n xs e w') : GivesO w n xs e w' := by
 obtain ⟨g, c, rfl, hO, hb⟩ := h
 exact ⟨_, rfl, hO, hb⟩
theorem giveso_nil {w w' : World} {e : Ending} (h : e = .returned (.slice none 0 0) ∧ Below w.heap.size w w') : GivesO w 0 [] e w' := ⟨_, h.1, World.ownsRow_nil _ _ _ _, h.2⟩
theorem givest_nil {w w' : World} {e : Ending} (h : e = .returned (.slice none 0 0) ∧ Below w.heap.size w w') : GivesT w 0 [] e w' :=
 ⟨none, 0, [], h.1, ⟨⟨rfl, Nat.le_refl _, by omega, fun _ => ⟨rfl, rfl⟩, fun i hi => by omega⟩, fun i hi => by omega, fun i hi => by omega⟩, h.2⟩
theorem cf_dim {c : Cf} (h : mayB c = true) : ∃ D : Nat, c = ⟨c.seed, c.vocab, (D : Int), c.layers, c.top, c.heat⟩ ∧ c.dim.toNat = D ∧ 1 ≤ D ∧ D ≤ 16 := by
 have := may_parts h
 refine ⟨c.dim.toNat, ?_, rfl, by omega, by omega⟩
 rw [Int.toNat_of_nonneg (by omega)]
theorem token_g (p : Option Addr) (c : Cf) (t : Int) (w : World) (hp : MdAt w p c) (hc : mayB c = true) :
  Calls Tryz.prog 151 #[.pointer p, .int .i64 t] w fun e w' => GivesO w (tokL c t).length (tokL c t) e w' := by
 have hm := may_parts hc
 obtain ⟨D, hD, hD2, h1, h16⟩ := cf_dim hc
 unfold tokL
 by_cases h : 0 ≤ t ∧ t < c.vocab
 ·rw [if_pos h, rowK_len, hD2]
  rw [hD] at hp
  exact (token_yes p _ _ _ _ _ t D w hp h.1 h.2 hm.2.1 h16).mono fun e w' h => h.giveso
 ·rw [if_neg h]
  exact (token_no p c t w hp (by omega) (by omega) (by omega)).mono fun e w' h => giveso_nil h
theorem place_g (p : Option Addr) (c : Cf) (t : Int) (w : World) (hp : MdAt w p c) (hc : mayB c = true) :
  Calls Tryz.prog 152 #[.pointer p, .int .i64 t] w fun e w' => GivesO w (plL c t).length (plL c t) e w' := by
 have hm := may_parts hc
 obtain ⟨D, hD, hD2, h1, h16⟩ := cf_dim hc
 unfold plL
 by_cases h : 0 ≤ t ∧ t < 256
 ·rw [if_pos h, rowK_len, hD2]
  rw [hD] at hp hc
  exact (place_yes p _ _ _ _ _ t D w hp hc h.1 h.2 h16).mono fun e w' h => h.giveso
 ·rw [if_neg h]
  exact (place_no p c t w hp hc (by omega)).mono fun e w' h => giveso_nil h
theorem rows_g (p : Option Addr) (c : Cf) (la wh : Int) (w : World) (hp : MdAt w p c) (hc : mayB c = true) :
  Calls Tryz.prog 208 #[.pointer p, .int .i64 la, .int .i64 wh] w fun e w' => GivesT w (tabL c la wh).length (tabL c la wh) e w' := by
 have hm := may_parts hc
 obtain ⟨D, hD, hD2, h1, h16⟩ := cf_dim hc
 unfold tabL
 by_cases h : 0 ≤ la ∧ la < c.layers ∧ 0 ≤ wh ∧ wh ≤ 5
 ·rw [if_pos h, tblK_len, hD2]
  rw [hD] at hp
  exact (rows_yes p _ _ _ _ _ la wh D w hp h.1 h.2.1 hm.2.2.2.2.2 h.2.2.1 h.2.2.2 h16).mono fun e w' h => h.gives (by omega)
 ·rw [if_neg h]
  exact (rows_no p c la wh w hp (by omega) (by omega) (by omega)).mono fun e w' h => givest_nil h
theorem Tryz.cellsI : Tryz.prog.cellsOf 3 = 1 := by kernel_rfl
theorem Tryz.cellsU : Tryz.prog.cellsOf 22 = 1 := by kernel_rfl
section
open Go.ChangeShapes Go.WideShapes Go.ChangeAt
variable {H : Type} {enc : TypeId × Value → H} {W : World}
theorem at_some {α : Type} {xs : List α} {n : Nat} (h : xs.length = n) {i : Nat} (hi : i < n) : ∃ y, xs[i]? = some y := ⟨_, List.getElem?_eq_getElem (by omega)⟩
end
end Go.Proofs.YtjgggialnegddaaGreat
namespace Go.Proofs.YtjgggialnegddaaGreat
open Go.RowKit
theorem nums_at {H : Type} {enc : TypeId × Value → H} {w : World} {held : Bool} {fuel : Nat} {c : Value} {x : DataW H × List MemPlace}
  (h : DataW.trod enc Tryz.prog w 0 (fun _ => true) held fuel 41 [c] = some x) : ∃ a len cap zs, c = .slice a len cap ∧ Reads .i64 w a len cap zs := by
 rcases Go.ChangeShapes.open_ints Tryz.underlying41 Tryz.underlying3 (by kernel_rfl) h with ⟨hcs, _⟩ | ⟨ad, l, k, zs, hcs, _, hl, hm, hz, _, hx, hw⟩
 ·simp at hcs
  subst hcs
  exact ⟨none, 0, 0, [], rfl, Reads.nil _ _⟩
 ·simp at hcs
  subst hcs
  exact ⟨_, _, _, _, rfl, (Reads.row (zs := zs) (.inr ⟨ad, rfl, hl, hm, by simpa using hz, hx, hw⟩)).1⟩
structure Jb where
 seed : Int
 ap : Option Addr
 lp : Nat
 cp : Nat
 ts : List Int
 most : Int
def JbV (j : Jb) : Array Value := #[.int .u64 j.seed, .slice j.ap j.lp j.cp, .int .i64 j.most]
def JbIn (w : World) (j : Jb) : Prop := Reads .i64 w j.ap j.lp j.cp j.ts
theorem Jb_cells {W : World} {g : Nat} {j : Jb} {T : TypeId} (h : W.heap[g]? = some (.cells (JbV j) T (0, 0))) :
  W.cell? ⟨g, 0, none⟩ = some (.int .u64 j.seed) ∧ W.cell? ⟨g, 1, none⟩ = some (.slice j.ap j.lp j.cp) ∧ W.cell? ⟨g, 2, none⟩ = some (.int .i64 j.most) := by
 refine ⟨?_, ?_, ?_⟩ <;> (rw [cell_of_row _ _ _ _ _ _ h]; rfl)
theorem Tryz.cellsJb : Tryz.prog.cellsOf 43 = 3 := by kernel_rfl
theorem Tryz.cellsNs : Tryz.prog.cellsOf 41 = 1 := by kernel_rfl
section
open Go.ChangeShapes Go.WideShapes Go.ChangeAt
variable {H : Type} {enc : TypeId × Value → H} {W : World}
end
end Go.Proofs.YtjgggialnegddaaGreat
namespace Go.Proofs.YtjgggialnegddaaGreat
open Go.RowKit
structure Ms where
 kind : Int
 st : Int
 se : Int
 att : Int
 inc : Int
 n : Int
 cnt : Int
 why : Int
 job : Jb
 la : Option Addr
 ll : Nat
 lc : Nat
 li : List Int
def MsV (m : Ms) : Array Value := #[.int .i64 m.kind, .int .u64 m.st, .int .u64 m.se, .int .u64 m.att, .int .u64 m.inc, .int .u64 m.n, .int .u64 m.cnt, .int .i64 m.why, .int .u64 m.job.seed, .slice m.job.ap m.job.lp m.job.cp, .int .i64 m.job.most, .slice m.la m.ll m.lc]
structure MsIn (w : World) (m : Ms) : Prop where
 job : JbIn w m.job
 list : Reads .i64 w m.la m.ll m.lc m.li
theorem MsIn.below {w w' : World} {m : Ms} (h : MsIn w m) (hb : Below w.heap.size w w') : MsIn w' m := ⟨Reads.below h.job hb, h.list.below hb⟩
def isU (x : Int) : Prop := 0 ≤ x ∧ x ≤ 18446744073709551615
def isI (x : Int) : Prop := -9223372036854775808 ≤ x ∧ x ≤ 9223372036854775807
structure MsOk (m : Ms) : Prop where
 kind : isI m.kind
 st : isU m.st
 se : isU m.se
 att : isU m.att
 inc : isU m.inc
 n : isU m.n
 cnt : isU m.cnt
 why : isI m.why
 seed : isU m.job.seed
 most : isI m.job.most
structure Sg where
 c : Cf
 q : Int
 b : Int
 pg : Int
 sz : Int
 ch : Int
def SgV (s : Sg) : Array Value := #[.int .u64 s.c.seed, .int .i64 s.c.vocab, .int .i64 s.c.dim, .int .i64 s.c.layers, .int .i64 s.c.top, .int .i64 s.c.heat, .int .i64 s.q, .int .i64 s.b, .int .i64 s.pg, .int .i64 s.sz, .int .i64 s.ch]
structure Sp where
 kd : Int
 now : Bool
 m : Ms
def SpV (s : Sp) : Array Value := #[.int .u8 s.kd, .bool s.now, .int .i64 s.m.kind, .int .u64 s.m.st, .int .u64 s.m.se, .int .u64 s.m.att, .int .u64 s.m.inc, .int .u64 s.m.n, .int .u64 s.m.cnt, .int .i64 s.m.why, .int .u64 s.m.job.seed, .slice s.m.job.ap s.m.job.lp s.m.job.cp, .int .i64 s.m.job.most, .slice s.m.la s.m.ll s.m.lc]
structure SpOk (w : World) (s : Sp) : Prop where
 kd : 0 ≤ s.kd ∧ s.kd ≤ 255
 inn : MsIn w s.m
 ok : MsOk s.m
theorem SpOk.below {w w' : World} {s : Sp} (h : SpOk w s) (hb : Below w.heap.size w w') : SpOk w' s := ⟨h.kd, h.inn.below hb, h.ok⟩
theorem Tryz.cellsMs : Tryz.prog.cellsOf 45 = 12 := by kernel_rfl
theorem arrayN12 {α : Type} {cs : Array α} (h : cs.size = 12) : ∃ c0 c1 c2 c3 c4 c5 c6 c7 c8 c9 c10 c11, cs = #[c0, c1, c2, c3, c4, c5, c6, c7, c8, c9, c10, c11] := by
 obtain ⟨l⟩ := cs
 match l, h with
 | [c0, c1, c2, c3, c4, c5, c6, c7, c8, c9, c10, c11], _ => exact ⟨c0, c1, c2, c3, c4, c5, c6, c7, c8, c9, c10, c11, rfl⟩
structure Lst {α : Type} (w : World) (a : Option Addr) (len cap k : Nat) (xs : List α) (V : α → Array Value) (I : α → Prop) : Prop where
 size : xs.length = len
 room : len ≤ cap
 most : cap ≤ 9223372036854775807
 bare : a = none → len = 0 ∧ cap = 0
 cell : ∀ i (hi : i < xs.length), ∃ b off, a = some ⟨b, off, none⟩ ∧ ∀ j, j < k → w.cell? ⟨b, off + i * k + j, none⟩ = (V xs[i])[j]?
 inn : ∀ i (hi : i < xs.length), I xs[i]
section Args
open Go.ChangeShapes Go.WideShapes Go.ChangeAt
variable {H : Type} {enc : TypeId × Value → H} {W : World}
theorem eu64_at {fuel : Nat} {c : Value} {x : DataW H × List MemPlace} (h : DataW.trod enc Tryz.prog W 0 (fun _ => true) true fuel 22 [c] = some x) : ∃ n : Int, c = .int .u64 n ∧ isU n := by
 obtain ⟨n, hc, _, hw⟩ := DataW.trod_int Tryz.underlying22 h
 simp at hc
 have := bounds_u64 hw
 exact ⟨n, hc, by omega, by omega⟩
theorem eint_at {fuel : Nat} {c : Value} {x : DataW H × List MemPlace} (h : DataW.trod enc Tryz.prog W 0 (fun _ => true) true fuel 3 [c] = some x) : ∃ n : Int, c = .int .i64 n ∧ isI n := by
 obtain ⟨n, hc, _, hw⟩ := DataW.trod_int Tryz.underlying3 h
 simp at hc
 have := bounds_i64 hw
 exact ⟨n, hc, by omega, by omega⟩
theorem job_at {fuel : Nat} {c0 c1 c2 : Value} {x : DataW H × List MemPlace} (hf : DataW.trod enc Tryz.prog W 0 (fun _ => true) true fuel 43 [c0, c1, c2] = some x) :
  ∃ j : Jb, [c0, c1, c2] = (JbV j).toList ∧ JbIn W j ∧ isU j.seed ∧ isI j.most := by
 obtain ⟨xs, n, _, _, _, hl, hF⟩ := DataW.trod_struct Tryz.underlying43 hf
 have hl : xs.length = 3 := hl
 obtain ⟨y0, e0⟩ := at_some hl (i := 0) (by omega)
 obtain ⟨y1, e1⟩ := at_some hl (i := 1) (by omega)
 obtain ⟨y2, e2⟩ := at_some hl (i := 2) (by omega)
 have g0 : DataW.trod enc Tryz.prog W 0 (fun _ => true) true n 22 [c0] = some y0 := by
  have g := hF 0 _ rfl
  change DataW.trod enc Tryz.prog W 0 (fun _ => true) true n 22 (List.take (Tryz.prog.cellsOf 22) (List.drop 0 [c0, c1, c2])) = xs[0]? at g
  rw [Tryz.cellsU, e0] at g
  exact g
 have g1 : DataW.trod enc Tryz.prog W 0 (fun _ => true) true n 41 [c1] = some y1 := by
  have g := hF 1 _ rfl
  change DataW.trod enc Tryz.prog W 0 (fun _ => true) true n 41 (List.take (Tryz.prog.cellsOf 41) (List.drop 1 [c0, c1, c2])) = xs[1]? at g
  rw [Tryz.cellsNs, e1] at g
  exact g
 have g2 : DataW.trod enc Tryz.prog W 0 (fun _ => true) true n 3 [c2] = some y2 := by
  have g := hF 2 _ rfl
  change DataW.trod enc Tryz.prog W 0 (fun _ => true) true n 3 (List.take (Tryz.prog.cellsOf 3) (List.drop 2 [c0, c1, c2])) = xs[2]? at g
  rw [Tryz.cellsI, e2] at g
  exact g
 clear hF
 obtain ⟨sd, rfl, sdb⟩ := eu64_at g0
 obtain ⟨ap, lp, cp, ts, rfl, rp⟩ := nums_at g1
 obtain ⟨mo, rfl, mob⟩ := eint_at g2
 exact ⟨⟨sd, ap, lp, cp, ts, mo⟩, rfl, rp, sdb, mob⟩
theorem ms_at {fuel : Nat} {c0 c1 c2 c3 c4 c5 c6 c7 c8 c9 c10 c11 : Value} {x : DataW H × List MemPlace} (hf : DataW.trod enc Tryz.prog W 0 (fun _ => true) true fuel 45 [c0, c1, c2, c3, c4, c5, c6, c7, c8, c9, c10, c11] = some x) :
  ∃ m : Ms, [c0, c1, c2, c3, c4, c5, c6, c7, c8, c9, c10, c11] = (MsV m).toList ∧ MsIn W m ∧ MsOk m := by
 obtain ⟨xs, n, _, _, _, hl, hF⟩ := DataW.trod_struct Tryz.underlying45 hf
 have hl : xs.length = 10 := hl
 obtain ⟨y0, e0⟩ := at_some hl (i := 0) (by omega)
 obtain ⟨y1, e1⟩ := at_some hl (i := 1) (by omega)
 obtain ⟨y2, e2⟩ := at_some hl (i := 2) (by omega)
 obtain ⟨y3, e3⟩ := at_some hl (i := 3) (by omega)
 obtain ⟨y4, e4⟩ := at_some hl (i := 4) (by omega)
 obtain ⟨y5, e5⟩ := at_some hl (i := 5) (by omega)
 obtain ⟨y6, e6⟩ := at_some hl (i := 6) (by omega)
 obtain ⟨y7, e7⟩ := at_some hl (i := 7) (by omega)
 obtain ⟨y8, e8⟩ := at_some hl (i := 8) (by omega)
 obtain ⟨y9, e9⟩ := at_some hl (i := 9) (by omega)
 have g0 : DataW.trod enc Tryz.prog W 0 (fun _ => true) true n 3 [c0] = some y0 := by
  have g := hF 0 _ rfl
  change DataW.trod enc Tryz.prog W 0 (fun _ => true) true n 3 (List.take (Tryz.prog.cellsOf 3) (List.drop 0 [c0, c1, c2, c3, c4, c5, c6, c7, c8, c9, c10, c11])) = xs[0]? at g
  rw [Tryz.cellsI, e0] at g
  exact g
 have g1 : DataW.trod enc Tryz.prog W 0 (fun _ => true) true n 22 [c1] = some y1 := by
  have g := hF 1 _ rfl
  change DataW.trod enc Tryz.prog W 0 (fun _ => true) true n 22 (List.take (Tryz.prog.cellsOf 22) (List.drop 1 [c0, c1, c2, c3, c4, c5, c6, c7, c8, c9, c10, c11])) = xs[1]? at g
  rw [Tryz.cellsU, e1] at g
  exact g
 have g2 : DataW.trod enc Tryz.prog W 0 (fun _ => true) true n 22 [c2] = some y2 := by
  have g := hF 2 _ rfl
  change DataW.trod enc Tryz.prog W 0 (fun _ => true) true n 22 (List.take (Tryz.prog.cellsOf 22) (List.drop 2 [c0, c1, c2, c3, c4, c5, c6, c7, c8, c9, c10, c11])) = xs[2]? at g
  rw [Tryz.cellsU, e2] at g
  exact g
 have g3 : DataW.trod enc Tryz.prog W 0 (fun _ => true) true n 22 [c3] = some y3 := by
  have g := hF 3 _ rfl
  change DataW.trod enc Tryz.prog W 0 (fun _ => true) true n 22 (List.take (Tryz.prog.cellsOf 22) (List.drop 3 [c0, c1, c2, c3, c4, c5, c6, c7, c8, c9, c10, c11])) = xs[3]? at g
  rw [Tryz.cellsU, e3] at g
  exact g
 have g4 : DataW.trod enc Tryz.prog W 0 (fun _ => true) true n 22 [c4] = some y4 := by
  have g := hF 4 _ rfl
  change DataW.trod enc Tryz.prog W 0 (fun _ => true) true n 22 (List.take (Tryz.prog.cellsOf 22) (List.drop 4 [c0, c1, c2, c3, c4, c5, c6, c7, c8, c9, c10, c11])) = xs[4]? at g
  rw [Tryz.cellsU, e4] at g
  exact g
 have g5 : DataW.trod enc Tryz.prog W 0 (fun _ => true) true n 22 [c5] = some y5 := by
  have g := hF 5 _ rfl
  change DataW.trod enc Tryz.prog W 0 (fun _ => true) true n 22 (List.take (Tryz.prog.cellsOf 22) (List.drop 5 [c0, c1, c2, c3, c4, c5, c6, c7, c8, c9, c10, c11])) = xs[5]? at g
  rw [Tryz.cellsU, e5] at g
  exact g
 have g6 : DataW.trod enc Tryz.prog W 0 (fun _ => true) true n 22 [c6] = some y6 := by
  have g := hF 6 _ rfl
  change DataW.trod enc Tryz.prog W 0 (fun _ => true) true n 22 (List.take (Tryz.prog.cellsOf 22) (List.drop 6 [c0, c1, c2, c3, c4, c5, c6, c7, c8, c9, c10, c11])) = xs[6]? at g
  rw [Tryz.cellsU, e6] at g
  exact g
 have g7 : DataW.trod enc Tryz.prog W 0 (fun _ => true) true n 3 [c7] = some y7 := by
  have g := hF 7 _ rfl
  change DataW.trod enc Tryz.prog W 0 (fun _ => true) true n 3 (List.take (Tryz.prog.cellsOf 3) (List.drop 7 [c0, c1, c2, c3, c4, c5, c6, c7, c8, c9, c10, c11])) = xs[7]? at g
  rw [Tryz.cellsI, e7] at g
  exact g
 have g8 : DataW.trod enc Tryz.prog W 0 (fun _ => true) true n 43 [c8, c9, c10] = some y8 := by
  have g := hF 8 _ rfl
  change DataW.trod enc Tryz.prog W 0 (fun _ => true) true n 43 (List.take (Tryz.prog.cellsOf 43) (List.drop 8 [c0, c1, c2, c3, c4, c5, c6, c7, c8, c9, c10, c11])) = xs[8]? at g
  rw [Tryz.cellsJb, e8] at g
  exact g
 have g9 : DataW.trod enc Tryz.prog W 0 (fun _ => true) true n 41 [c11] = some y9 := by
  have g := hF 9 _ rfl
  change DataW.trod enc Tryz.prog W 0 (fun _ => true) true n 41 (List.take (Tryz.prog.cellsOf 41) (List.drop 11 [c0, c1, c2, c3, c4, c5, c6, c7, c8, c9, c10, c11])) = xs[9]? at g
  rw [Tryz.cellsNs, e9] at g
  exact g
 clear hF
 obtain ⟨kind, rfl, kindb⟩ := eint_at g0
 obtain ⟨st, rfl, stb⟩ := eu64_at g1
 obtain ⟨se, rfl, seb⟩ := eu64_at g2
 obtain ⟨ate, rfl, ateb⟩ := eu64_at g3
 obtain ⟨inc, rfl, incb⟩ := eu64_at g4
 obtain ⟨nn, rfl, nnb⟩ := eu64_at g5
 obtain ⟨cnt, rfl, cntb⟩ := eu64_at g6
 obtain ⟨why, rfl, whyb⟩ := eint_at g7
 obtain ⟨j, ej, hj, jb, jm⟩ := job_at g8
 obtain ⟨la, ll, lc, li, rfl, rl⟩ := nums_at g9
 simp [JbV] at ej
 obtain ⟨rfl, rfl, rfl⟩ := ej
 exact ⟨⟨kind, st, se, ate, inc, nn, cnt, why, j, la, ll, lc, li⟩, rfl, ⟨hj, rl⟩, ⟨kindb, stb, seb, ateb, incb, nnb, cntb, whyb, jb, jm⟩⟩
theorem ms_open {b0 : Nat} {v : Value} {d : DataW H} {ps : List MemPlace} (hv : Value.okWide Tryz.prog W .any b0 45 v) (h : DataW.Trod enc Tryz.prog W 0 (fun _ => true) true 45 v d ps) :
  ∃ m : Ms, v = .agg (MsV m) ∧ MsIn W m ∧ MsOk m := by
 obtain ⟨cs, rfl, hsz⟩ := okWide_struct Tryz.underlying45 hv
 rw [Tryz.cellsMs] at hsz
 obtain ⟨c0, c1, c2, c3, c4, c5, c6, c7, c8, c9, c10, c11, rfl⟩ := arrayN12 hsz
 obtain ⟨fuel, hf⟩ := h
 obtain ⟨m, em, hm, ho⟩ := ms_at hf
 refine ⟨m, ?_, hm, ho⟩
 congr 1
 exact Array.toList_inj.1 em
end Args
end Go.Proofs.YtjgggialnegddaaGreat
namespace Go.Proofs.YtjgggialnegddaaGreat
open Go.RowKit Go.Maps
theorem alaw : Keyed Tryz.prog 22 := int_keyed Tryz.underlying22
theorem azero (w : World) : (zeroValue 88).run Tryz.prog w = .ok (.pointer none) w := by kernel_rfl
theorem isU.wf {x : Int} (h : isU x) : (Lit.int .u64 x).wf = true := WalkArith.wf_u64 h
theorem akey {x : Int} (h : isU x) : keyOf Tryz.prog 22 (.int .u64 x) = some (.int .u64 x) := keyOf_int_mk Tryz.underlying22 h.wf
def AmAt (W : World) (B c : Nat) (f : Int → Option Nat) : Prop :=
 ∃ D : DataW Unit, W.ownsMap Tryz.prog 22 Rp B c D ∧ (∀ x, isU x → D.atKey (.int .u64 x) (.lit (.int .i64 (-1))) = .lit (.int .i64 (codeP (f x))) ∧ Maps.has D (.int .u64 x) = (f x).isSome) ∧ Maps.size D = c
theorem AmAt.new (w : World) : AmAt (w.alloc (.map #[] 0)) w.heap.size 0 (fun _ => none) := ⟨.map [], World.ownsMap_made _ _ _ _, fun v _ => ⟨rfl, rfl⟩, rfl⟩
theorem AmAt.lt {W : World} {B c : Nat} {f : Int → Option Nat} (h : AmAt W B c f) : B < W.heap.size := by obtain ⟨D, h1, _⟩ := h; exact h1.lt
theorem AmAt.blk {W : World} {B c : Nat} {f : Int → Option Nat} (h : AmAt W B c f) : ∃ es clock, W.heap[B]? = some (.map es clock) := by
 obtain ⟨D, ⟨es, clock, h1, h2⟩, h3⟩ := h
 exact ⟨es, clock, h1⟩
theorem AmAt.same {W W' : World} {B c : Nat} {f : Int → Option Nat} (h : AmAt W B c f) (hb : W'.heap[B]? = W.heap[B]?) : AmAt W' B c f := by
 obtain ⟨D, ⟨es, clock, h1, h2⟩, h3⟩ := h
 exact ⟨D, ⟨es, clock, hb.trans h1, h2⟩, h3⟩
theorem AmAt.below {W W' : World} {B c : Nat} {f : Int → Option Nat} (h : AmAt W B c f) (hb : Below W.heap.size W W') : AmAt W' B c f := h.same (hb.block _ h.lt)
theorem AmAt.ext {W : World} {B c : Nat} {f g : Int → Option Nat} (h : AmAt W B c f) (he : ∀ x, isU x → f x = g x) : AmAt W B c g := by
 obtain ⟨D, h1, h2, h3⟩ := h
 exact ⟨D, h1, fun x hx => by rw [← he x hx]; exact h2 x hx, h3⟩
theorem owns_tight {W : World} {B n : Nat} {D : DataW Unit} (h : W.ownsMap Tryz.prog 22 Rp B n D) : W.ownsMap Tryz.prog 22 Rp B (Maps.size D) D := by
 obtain ⟨es, clock, h1, h2, h3, rfl⟩ := h
 refine ⟨es, clock, h1, h2, ?_, rfl⟩
 rw [size_eq, length_read]
 exact Nat.le_refl _
theorem AmAt.look {W : World} {B c : Nat} {f : Int → Option Nat} (h : AmAt W B c f) {x : Int} (hx : isU x) : (Instr.lookup 71 (.map (some B)) (.int .u64 x) false).run Tryz.prog W = .ok (.pointer (ptrP (f x))) W := by
 obtain ⟨D, h1, h2, _⟩ := h
 obtain ⟨u, ps, hr, hu⟩ := h1.lookup alaw Tryz.underlying71 (azero W) (zd := .lit (.int .i64 (-1))) (zp := []) rfl (akey hx)
 rw [(h2 x hx).1] at hu
 rw [hr, Rp_inv hu]
theorem AmAt.store {W : World} {B c : Nat} {f : Int → Option Nat} (h : AmAt W B c f) (hn : c ≤ 100000) {x : Int} (hx : isU x) (b : Nat) :
  ∃ W', (Instr.mapUpdate 71 (.map (some B)) (.int .u64 x) (.pointer (some ⟨b, 0, none⟩))).run Tryz.prog W = .ok () W' ∧ (f x = none → ∀ g : Int → Option Nat, g x = some b → (∀ u, u ≠ x → g u = f u) → AmAt W' B (c + 1) g) ∧ W.mapTurned W' B := by
 obtain ⟨D, h1, h2, h3⟩ := h
 obtain ⟨W', hr, ho, hg⟩ := h1.store alaw Tryz.underlying71 (by unfold maxLen; omega) (akey hx) (Rp_mk b)
 refine ⟨W', hr, fun hf g g1 g2 => ⟨_, ho, fun u hu => ?_, ?_⟩, hg⟩
 ·by_cases e : u = x
  ·subst e
   rw [atKey_put_same h1.isMap (alaw.key (akey hx)), has_put_same h1.isMap (alaw.key (akey hx)), g1]
   exact ⟨rfl, rfl⟩
  ·have hne : Lit.int .u64 u ≠ Lit.int .u64 x := fun e2 => e (by cases e2; rfl)
   rw [atKey_put_other hne, has_put_other hne, g2 u e]
   exact h2 u hu
 ·rw [size_put (h1.tidy alaw), (h2 x hx).2, hf, h3]
  simp
theorem AmAt.drop {W : World} {B c : Nat} {f : Int → Option Nat} (h : AmAt W B c f) {x : Int} (hx : isU x) (ty : TypeId) :
  ∃ W', (Builtin.delete_ #[71, 22] ty #[.map (some B), .int .u64 x]).run Tryz.prog W = .ok (.tuple #[]) W' ∧ (∀ g : Int → Option Nat, g x = none → (∀ u, u ≠ x → g u = f u) → AmAt W' B (c - (if (f x).isSome then 1 else 0)) g) ∧ W.mapTurned W' B := by
 obtain ⟨D, h1, h2, h3⟩ := h
 obtain ⟨W', hr, ho, hg⟩ := h1.drop alaw Tryz.underlying71 (akey hx) ty
 have hs := size_del (k := Lit.int .u64 x) (h1.tidy alaw)
 rw [(h2 x hx).2, h3] at hs
 have hs2 : Maps.size (D.del (.int .u64 x)) = c - (if (f x).isSome then 1 else 0) := by omega
 refine ⟨W', hr, fun g g1 g2 => ⟨_, hs2 ▸ owns_tight ho, fun u hu => ?_, hs2⟩, hg⟩
 by_cases e : u = x
 ·subst e
  rw [atKey_del_same, has_del_same, g1]
  exact ⟨rfl, rfl⟩
 ·have hne : Lit.int .u64 u ≠ Lit.int .u64 x := fun e2 => e (by cases e2; rfl)
  rw [atKey_del_other hne, has_del_other hne, g2 u e]
  exact h2 u hu
theorem AmAt.len {W : World} {B c : Nat} {f : Int → Option Nat} (h : AmAt W B c f) (ty : TypeId) : (Builtin.len_ #[71] ty #[.map (some B)]).run Tryz.prog W = .ok (.int .i64 c) W := by
 obtain ⟨D, h1, h2, h3⟩ := h
 have := h1.len Tryz.underlying71 ty
 rw [h3] at this
 exact this
end Go.Proofs.YtjgggialnegddaaGreat
