/-
  The texts EnArgs, EnMap of this proof.
-/
import Derived.Test.YtjgggialnegddaaGreatPq10
import Derived.Test.YtjgggialnegddaaGreatPq01
import Derived.Deep.Slices
import Derived.ProofKit
set_option linter.unusedVariables false
set_option maxRecDepth 1000000
namespace Go.Proofs.YtjgggialnegddaaGreat
open Go.RowKit
structure Ms where
 kind : Int
 st : Int
 se : Int
 att : Int
 inc : Int
 n : Int
 cnt : Int
 why : Int
 job : Jb
 la : Option Addr
 ll : Nat
 lc : Nat
 li : List Int
def MsV (m : Ms) : Array Value := #[.int .i64 m.kind, .int .u64 m.st, .int .u64 m.se, .int .u64 m.att, .int .u64 m.inc, .int .u64 m.n, .int .u64 m.cnt, .int .i64 m.why, .int .u64 m.job.seed, .slice m.job.ap m.job.lp m.job.cp, .int .i64 m.job.most, .slice m.la m.ll m.lc]
structure MsIn (w : World) (m : Ms) : Prop where
 job : JbIn w m.job
 list : Reads .i64 w m.la m.ll m.lc m.li
theorem MsIn.below {w w' : World} {m : Ms} (h : MsIn w m) (hb : Below w.heap.size w w') : MsIn w' m := ⟨Reads.below h.job hb, h.list.below hb⟩
def isU (x : Int) : Prop := 0 ≤ x ∧ x ≤ 18446744073709551615
def isI (x : Int) : Prop := -9223372036854775808 ≤ x ∧ x ≤ 9223372036854775807
structure MsOk (m : Ms) : Prop where
 kind : isI m.kind
 st : isU m.st
 se : isU m.se
 att : isU m.att
 inc : isU m.inc
 n : isU m.n
 cnt : isU m.cnt
 why : isI m.why
 seed : isU m.job.seed
 most : isI m.job.most
structure Sg where
 c : Cf
 q : Int
 b : Int
 pg : Int
 sz : Int
 ch : Int
def SgV (s : Sg) : Array Value := #[.int .u64 s.c.seed, .int .i64 s.c.vocab, .int .i64 s.c.dim, .int .i64 s.c.layers, .int .i64 s.c.top, .int .i64 s.c.heat, .int .i64 s.q, .int .i64 s.b, .int .i64 s.pg, .int .i64 s.sz, .int .i64 s.ch]
structure SgOk (s : Sg) : Prop where
 q : isI s.q
 b : isI s.b
 pg : isI s.pg
 sz : isI s.sz
 ch : isI s.ch
structure Sp where
 kd : Int
 now : Bool
 m : Ms
def SpV (s : Sp) : Array Value := #[.int .u8 s.kd, .bool s.now, .int .i64 s.m.kind, .int .u64 s.m.st, .int .u64 s.m.se, .int .u64 s.m.att, .int .u64 s.m.inc, .int .u64 s.m.n, .int .u64 s.m.cnt, .int .i64 s.m.why, .int .u64 s.m.job.seed, .slice s.m.job.ap s.m.job.lp s.m.job.cp, .int .i64 s.m.job.most, .slice s.m.la s.m.ll s.m.lc]
structure SpOk (w : World) (s : Sp) : Prop where
 kd : 0 ≤ s.kd ∧ s.kd ≤ 255
 inn : MsIn w s.m
 ok : MsOk s.m
theorem SpOk.below {w w' : World} {s : Sp} (h : SpOk w s) (hb : Below w.heap.size w w') : SpOk w' s := ⟨h.kd, h.inn.below hb, h.ok⟩
theorem Tryz.cellsMs : Tryz.prog.cellsOf 45 = 12 := by kernel_rfl
theorem Tryz.cellsSg : Tryz.prog.cellsOf 26 = 11 := by kernel_rfl
theorem Tryz.cellsSp : Tryz.prog.cellsOf 47 = 14 := by kernel_rfl
theorem Tryz.cellsCf : Tryz.prog.cellsOf 24 = 6 := by kernel_rfl
theorem Tryz.cellsU8 : Tryz.prog.cellsOf 5 = 1 := by kernel_rfl
theorem Tryz.cellsBo : Tryz.prog.cellsOf 4 = 1 := by kernel_rfl
theorem arrayN11 {α : Type} {cs : Array α} (h : cs.size = 11) : ∃ c0 c1 c2 c3 c4 c5 c6 c7 c8 c9 c10, cs = #[c0, c1, c2, c3, c4, c5, c6, c7, c8, c9, c10] := by
 obtain ⟨l⟩ := cs
 match l, h with
 | [c0, c1, c2, c3, c4, c5, c6, c7, c8, c9, c10], _ => exact ⟨c0, c1, c2, c3, c4, c5, c6, c7, c8, c9, c10, rfl⟩
theorem listN14 {α : Type} {cs : List α} (h : cs.length = 14) : ∃ c0 c1 c2 c3 c4 c5 c6 c7 c8 c9 c10 c11 c12 c13, cs = [c0, c1, c2, c3, c4, c5, c6, c7, c8, c9, c10, c11, c12, c13] := by
 match cs, h with
 | [c0, c1, c2, c3, c4, c5, c6, c7, c8, c9, c10, c11, c12, c13], _ => exact ⟨c0, c1, c2, c3, c4, c5, c6, c7, c8, c9, c10, c11, c12, c13, rfl⟩
structure Lst {α : Type} (w : World) (a : Option Addr) (len cap k : Nat) (xs : List α) (V : α → Array Value) (I : α → Prop) : Prop where
 size : xs.length = len
 room : len ≤ cap
 most : cap ≤ 9223372036854775807
 bare : a = none → len = 0 ∧ cap = 0
 cell : ∀ i (hi : i < xs.length), ∃ b off, a = some ⟨b, off, none⟩ ∧ ∀ j, j < k → w.cell? ⟨b, off + i * k + j, none⟩ = (V xs[i])[j]?
 inn : ∀ i (hi : i < xs.length), I xs[i]
section Args
open Go.ChangeShapes Go.WideShapes Go.ChangeAt
variable {H : Type} {enc : TypeId × Value → H} {W : World}
theorem eu64_at {fuel : Nat} {c : Value} {x : DataW H × List MemPlace} (h : DataW.trod enc Tryz.prog W 0 (fun _ => true) true fuel 22 [c] = some x) : ∃ n : Int, c = .int .u64 n ∧ isU n := by
 obtain ⟨n, hc, _, hw⟩ := DataW.trod_int Tryz.underlying22 h
 simp at hc
 have := bounds_u64 hw
 exact ⟨n, hc, by omega, by omega⟩
theorem eint_at {fuel : Nat} {c : Value} {x : DataW H × List MemPlace} (h : DataW.trod enc Tryz.prog W 0 (fun _ => true) true fuel 3 [c] = some x) : ∃ n : Int, c = .int .i64 n ∧ isI n := by
 obtain ⟨n, hc, _, hw⟩ := DataW.trod_int Tryz.underlying3 h
 simp at hc
 have := bounds_i64 hw
 exact ⟨n, hc, by omega, by omega⟩
theorem eu8_at {fuel : Nat} {c : Value} {x : DataW H × List MemPlace} (h : DataW.trod enc Tryz.prog W 0 (fun _ => true) true fuel 5 [c] = some x) : ∃ n : Int, c = .int .u8 n ∧ 0 ≤ n ∧ n ≤ 255 := by
 obtain ⟨n, hc, _, hw⟩ := DataW.trod_int Tryz.underlying5 h
 simp at hc
 have := bounds_u8 hw
 exact ⟨n, hc, by omega, by omega⟩
theorem ebool_at {fuel : Nat} {c : Value} {x : DataW H × List MemPlace} (h : DataW.trod enc Tryz.prog W 0 (fun _ => true) true fuel 4 [c] = some x) : ∃ b : Bool, c = .bool b := by
 obtain ⟨b, hc, _⟩ := DataW.trod_bool Tryz.underlying4 h
 simp at hc
 exact ⟨b, hc⟩
theorem job_at {fuel : Nat} {c0 c1 c2 : Value} {x : DataW H × List MemPlace} (hf : DataW.trod enc Tryz.prog W 0 (fun _ => true) true fuel 43 [c0, c1, c2] = some x) :
  ∃ j : Jb, [c0, c1, c2] = (JbV j).toList ∧ JbIn W j ∧ isU j.seed ∧ isI j.most := by
 obtain ⟨xs, n, _, _, _, hl, hF⟩ := DataW.trod_struct Tryz.underlying43 hf
 have hl : xs.length = 3 := hl
 obtain ⟨y0, e0⟩ := at_some hl (i := 0) (by omega)
 obtain ⟨y1, e1⟩ := at_some hl (i := 1) (by omega)
 obtain ⟨y2, e2⟩ := at_some hl (i := 2) (by omega)
 have g0 : DataW.trod enc Tryz.prog W 0 (fun _ => true) true n 22 [c0] = some y0 := by
  have g := hF 0 _ rfl
  change DataW.trod enc Tryz.prog W 0 (fun _ => true) true n 22 (List.take (Tryz.prog.cellsOf 22) (List.drop 0 [c0, c1, c2])) = xs[0]? at g
  rw [Tryz.cellsU, e0] at g
  exact g
 have g1 : DataW.trod enc Tryz.prog W 0 (fun _ => true) true n 41 [c1] = some y1 := by
  have g := hF 1 _ rfl
  change DataW.trod enc Tryz.prog W 0 (fun _ => true) true n 41 (List.take (Tryz.prog.cellsOf 41) (List.drop 1 [c0, c1, c2])) = xs[1]? at g
  rw [Tryz.cellsNs, e1] at g
  exact g
 have g2 : DataW.trod enc Tryz.prog W 0 (fun _ => true) true n 3 [c2] = some y2 := by
  have g := hF 2 _ rfl
  change DataW.trod enc Tryz.prog W 0 (fun _ => true) true n 3 (List.take (Tryz.prog.cellsOf 3) (List.drop 2 [c0, c1, c2])) = xs[2]? at g
  rw [Tryz.cellsI, e2] at g
  exact g
 clear hF
 obtain ⟨sd, rfl, sdb⟩ := eu64_at g0
 obtain ⟨ap, lp, cp, ts, rfl, rp⟩ := nums_at g1
 obtain ⟨mo, rfl, mob⟩ := eint_at g2
 exact ⟨⟨sd, ap, lp, cp, ts, mo⟩, rfl, rp, sdb, mob⟩
theorem confE_at {fuel : Nat} {c0 c1 c2 c3 c4 c5 : Value} {x : DataW H × List MemPlace} (hf : DataW.trod enc Tryz.prog W 0 (fun _ => true) true fuel 24 [c0, c1, c2, c3, c4, c5] = some x) :
  ∃ c : Cf, [c0, c1, c2, c3, c4, c5] = (CfV c).toList := by
 obtain ⟨xs, n, _, _, _, hl, hF⟩ := DataW.trod_struct Tryz.underlying24 hf
 have hl : xs.length = 6 := hl
 obtain ⟨y0, e0⟩ := at_some hl (i := 0) (by omega)
 obtain ⟨y1, e1⟩ := at_some hl (i := 1) (by omega)
 obtain ⟨y2, e2⟩ := at_some hl (i := 2) (by omega)
 obtain ⟨y3, e3⟩ := at_some hl (i := 3) (by omega)
 obtain ⟨y4, e4⟩ := at_some hl (i := 4) (by omega)
 obtain ⟨y5, e5⟩ := at_some hl (i := 5) (by omega)
 have g0 : DataW.trod enc Tryz.prog W 0 (fun _ => true) true n 22 [c0] = some y0 := by
  have g := hF 0 _ rfl
  change DataW.trod enc Tryz.prog W 0 (fun _ => true) true n 22 (List.take (Tryz.prog.cellsOf 22) (List.drop 0 [c0, c1, c2, c3, c4, c5])) = xs[0]? at g
  rw [Tryz.cellsU, e0] at g
  exact g
 have g1 : DataW.trod enc Tryz.prog W 0 (fun _ => true) true n 3 [c1] = some y1 := by
  have g := hF 1 _ rfl
  change DataW.trod enc Tryz.prog W 0 (fun _ => true) true n 3 (List.take (Tryz.prog.cellsOf 3) (List.drop 1 [c0, c1, c2, c3, c4, c5])) = xs[1]? at g
  rw [Tryz.cellsI, e1] at g
  exact g
 have g2 : DataW.trod enc Tryz.prog W 0 (fun _ => true) true n 3 [c2] = some y2 := by
  have g := hF 2 _ rfl
  change DataW.trod enc Tryz.prog W 0 (fun _ => true) true n 3 (List.take (Tryz.prog.cellsOf 3) (List.drop 2 [c0, c1, c2, c3, c4, c5])) = xs[2]? at g
  rw [Tryz.cellsI, e2] at g
  exact g
 have g3 : DataW.trod enc Tryz.prog W 0 (fun _ => true) true n 3 [c3] = some y3 := by
  have g := hF 3 _ rfl
  change DataW.trod enc Tryz.prog W 0 (fun _ => true) true n 3 (List.take (Tryz.prog.cellsOf 3) (List.drop 3 [c0, c1, c2, c3, c4, c5])) = xs[3]? at g
  rw [Tryz.cellsI, e3] at g
  exact g
 have g4 : DataW.trod enc Tryz.prog W 0 (fun _ => true) true n 3 [c4] = some y4 := by
  have g := hF 4 _ rfl
  change DataW.trod enc Tryz.prog W 0 (fun _ => true) true n 3 (List.take (Tryz.prog.cellsOf 3) (List.drop 4 [c0, c1, c2, c3, c4, c5])) = xs[4]? at g
  rw [Tryz.cellsI, e4] at g
  exact g
 have g5 : DataW.trod enc Tryz.prog W 0 (fun _ => true) true n 3 [c5] = some y5 := by
  have g := hF 5 _ rfl
  change DataW.trod enc Tryz.prog W 0 (fun _ => true) true n 3 (List.take (Tryz.prog.cellsOf 3) (List.drop 5 [c0, c1, c2, c3, c4, c5])) = xs[5]? at g
  rw [Tryz.cellsI, e5] at g
  exact g
 clear hF
 obtain ⟨a0, rfl, a0b⟩ := eu64_at g0
 obtain ⟨a1, rfl, a1b⟩ := eint_at g1
 obtain ⟨a2, rfl, a2b⟩ := eint_at g2
 obtain ⟨a3, rfl, a3b⟩ := eint_at g3
 obtain ⟨a4, rfl, a4b⟩ := eint_at g4
 obtain ⟨a5, rfl, a5b⟩ := eint_at g5
 exact ⟨⟨a0, a1, a2, a3, a4, a5⟩, rfl⟩
theorem ms_at {fuel : Nat} {c0 c1 c2 c3 c4 c5 c6 c7 c8 c9 c10 c11 : Value} {x : DataW H × List MemPlace} (hf : DataW.trod enc Tryz.prog W 0 (fun _ => true) true fuel 45 [c0, c1, c2, c3, c4, c5, c6, c7, c8, c9, c10, c11] = some x) :
  ∃ m : Ms, [c0, c1, c2, c3, c4, c5, c6, c7, c8, c9, c10, c11] = (MsV m).toList ∧ MsIn W m ∧ MsOk m := by
 obtain ⟨xs, n, _, _, _, hl, hF⟩ := DataW.trod_struct Tryz.underlying45 hf
 have hl : xs.length = 10 := hl
 obtain ⟨y0, e0⟩ := at_some hl (i := 0) (by omega)
 obtain ⟨y1, e1⟩ := at_some hl (i := 1) (by omega)
 obtain ⟨y2, e2⟩ := at_some hl (i := 2) (by omega)
 obtain ⟨y3, e3⟩ := at_some hl (i := 3) (by omega)
 obtain ⟨y4, e4⟩ := at_some hl (i := 4) (by omega)
 obtain ⟨y5, e5⟩ := at_some hl (i := 5) (by omega)
 obtain ⟨y6, e6⟩ := at_some hl (i := 6) (by omega)
 obtain ⟨y7, e7⟩ := at_some hl (i := 7) (by omega)
 obtain ⟨y8, e8⟩ := at_some hl (i := 8) (by omega)
 obtain ⟨y9, e9⟩ := at_some hl (i := 9) (by omega)
 have g0 : DataW.trod enc Tryz.prog W 0 (fun _ => true) true n 3 [c0] = some y0 := by
  have g := hF 0 _ rfl
  change DataW.trod enc Tryz.prog W 0 (fun _ => true) true n 3 (List.take (Tryz.prog.cellsOf 3) (List.drop 0 [c0, c1, c2, c3, c4, c5, c6, c7, c8, c9, c10, c11])) = xs[0]? at g
  rw [Tryz.cellsI, e0] at g
  exact g
 have g1 : DataW.trod enc Tryz.prog W 0 (fun _ => true) true n 22 [c1] = some y1 := by
  have g := hF 1 _ rfl
  change DataW.trod enc Tryz.prog W 0 (fun _ => true) true n 22 (List.take (Tryz.prog.cellsOf 22) (List.drop 1 [c0, c1, c2, c3, c4, c5, c6, c7, c8, c9, c10, c11])) = xs[1]? at g
  rw [Tryz.cellsU, e1] at g
  exact g
 have g2 : DataW.trod enc Tryz.prog W 0 (fun _ => true) true n 22 [c2] = some y2 := by
  have g := hF 2 _ rfl
  change DataW.trod enc Tryz.prog W 0 (fun _ => true) true n 22 (List.take (Tryz.prog.cellsOf 22) (List.drop 2 [c0, c1, c2, c3, c4, c5, c6, c7, c8, c9, c10, c11])) = xs[2]? at g
  rw [Tryz.cellsU, e2] at g
  exact g
 have g3 : DataW.trod enc Tryz.prog W 0 (fun _ => true) true n 22 [c3] = some y3 := by
  have g := hF 3 _ rfl
  change DataW.trod enc Tryz.prog W 0 (fun _ => true) true n 22 (List.take (Tryz.prog.cellsOf 22) (List.drop 3 [c0, c1, c2, c3, c4, c5, c6, c7, c8, c9, c10, c11])) = xs[3]? at g
  rw [Tryz.cellsU, e3] at g
  exact g
 have g4 : DataW.trod enc Tryz.prog W 0 (fun _ => true) true n 22 [c4] = some y4 := by
  have g := hF 4 _ rfl
  change DataW.trod enc Tryz.prog W 0 (fun _ => true) true n 22 (List.take (Tryz.prog.cellsOf 22) (List.drop 4 [c0, c1, c2, c3, c4, c5, c6, c7, c8, c9, c10, c11])) = xs[4]? at g
  rw [Tryz.cellsU, e4] at g
  exact g
 have g5 : DataW.trod enc Tryz.prog W 0 (fun _ => true) true n 22 [c5] = some y5 := by
  have g := hF 5 _ rfl
  change DataW.trod enc Tryz.prog W 0 (fun _ => true) true n 22 (List.take (Tryz.prog.cellsOf 22) (List.drop 5 [c0, c1, c2, c3, c4, c5, c6, c7, c8, c9, c10, c11])) = xs[5]? at g
  rw [Tryz.cellsU, e5] at g
  exact g
 have g6 : DataW.trod enc Tryz.prog W 0 (fun _ => true) true n 22 [c6] = some y6 := by
  have g := hF 6 _ rfl
  change DataW.trod enc Tryz.prog W 0 (fun _ => true) true n 22 (List.take (Tryz.prog.cellsOf 22) (List.drop 6 [c0, c1, c2, c3, c4, c5, c6, c7, c8, c9, c10, c11])) = xs[6]? at g
  rw [Tryz.cellsU, e6] at g
  exact g
 have g7 : DataW.trod enc Tryz.prog W 0 (fun _ => true) true n 3 [c7] = some y7 := by
  have g := hF 7 _ rfl
  change DataW.trod enc Tryz.prog W 0 (fun _ => true) true n 3 (List.take (Tryz.prog.cellsOf 3) (List.drop 7 [c0, c1, c2, c3, c4, c5, c6, c7, c8, c9, c10, c11])) = xs[7]? at g
  rw [Tryz.cellsI, e7] at g
  exact g
 have g8 : DataW.trod enc Tryz.prog W 0 (fun _ => true) true n 43 [c8, c9, c10] = some y8 := by
  have g := hF 8 _ rfl
  change DataW.trod enc Tryz.prog W 0 (fun _ => true) true n 43 (List.take (Tryz.prog.cellsOf 43) (List.drop 8 [c0, c1, c2, c3, c4, c5, c6, c7, c8, c9, c10, c11])) = xs[8]? at g
  rw [Tryz.cellsJb, e8] at g
  exact g
 have g9 : DataW.trod enc Tryz.prog W 0 (fun _ => true) true n 41 [c11] = some y9 := by
  have g := hF 9 _ rfl
  change DataW.trod enc Tryz.prog W 0 (fun _ => true) true n 41 (List.take (Tryz.prog.cellsOf 41) (List.drop 11 [c0, c1, c2, c3, c4, c5, c6, c7, c8, c9, c10, c11])) = xs[9]? at g
  rw [Tryz.cellsNs, e9] at g
  exact g
 clear hF
 obtain ⟨kind, rfl, kindb⟩ := eint_at g0
 obtain ⟨st, rfl, stb⟩ := eu64_at g1
 obtain ⟨se, rfl, seb⟩ := eu64_at g2
 obtain ⟨ate, rfl, ateb⟩ := eu64_at g3
 obtain ⟨inc, rfl, incb⟩ := eu64_at g4
 obtain ⟨nn, rfl, nnb⟩ := eu64_at g5
 obtain ⟨cnt, rfl, cntb⟩ := eu64_at g6
 obtain ⟨why, rfl, whyb⟩ := eint_at g7
 obtain ⟨j, ej, hj, jb, jm⟩ := job_at g8
 obtain ⟨la, ll, lc, li, rfl, rl⟩ := nums_at g9
 simp [JbV] at ej
 obtain ⟨rfl, rfl, rfl⟩ := ej
 exact ⟨⟨kind, st, se, ate, inc, nn, cnt, why, j, la, ll, lc, li⟩, rfl, ⟨hj, rl⟩, ⟨kindb, stb, seb, ateb, incb, nnb, cntb, whyb, jb, jm⟩⟩
theorem sg_at {fuel : Nat} {c0 c1 c2 c3 c4 c5 c6 c7 c8 c9 c10 : Value} {x : DataW H × List MemPlace} (hf : DataW.trod enc Tryz.prog W 0 (fun _ => true) true fuel 26 [c0, c1, c2, c3, c4, c5, c6, c7, c8, c9, c10] = some x) :
  ∃ s : Sg, [c0, c1, c2, c3, c4, c5, c6, c7, c8, c9, c10] = (SgV s).toList ∧ SgOk s := by
 obtain ⟨xs, n, _, _, _, hl, hF⟩ := DataW.trod_struct Tryz.underlying26 hf
 have hl : xs.length = 6 := hl
 obtain ⟨y0, e0⟩ := at_some hl (i := 0) (by omega)
 obtain ⟨y1, e1⟩ := at_some hl (i := 1) (by omega)
 obtain ⟨y2, e2⟩ := at_some hl (i := 2) (by omega)
 obtain ⟨y3, e3⟩ := at_some hl (i := 3) (by omega)
 obtain ⟨y4, e4⟩ := at_some hl (i := 4) (by omega)
 obtain ⟨y5, e5⟩ := at_some hl (i := 5) (by omega)
 have g0 : DataW.trod enc Tryz.prog W 0 (fun _ => true) true n 24 [c0, c1, c2, c3, c4, c5] = some y0 := by
  have g := hF 0 _ rfl
  change DataW.trod enc Tryz.prog W 0 (fun _ => true) true n 24 (List.take (Tryz.prog.cellsOf 24) (List.drop 0 [c0, c1, c2, c3, c4, c5, c6, c7, c8, c9, c10])) = xs[0]? at g
  rw [Tryz.cellsCf, e0] at g
  exact g
 have g1 : DataW.trod enc Tryz.prog W 0 (fun _ => true) true n 3 [c6] = some y1 := by
  have g := hF 1 _ rfl
  change DataW.trod enc Tryz.prog W 0 (fun _ => true) true n 3 (List.take (Tryz.prog.cellsOf 3) (List.drop 6 [c0, c1, c2, c3, c4, c5, c6, c7, c8, c9, c10])) = xs[1]? at g
  rw [Tryz.cellsI, e1] at g
  exact g
 have g2 : DataW.trod enc Tryz.prog W 0 (fun _ => true) true n 3 [c7] = some y2 := by
  have g := hF 2 _ rfl
  change DataW.trod enc Tryz.prog W 0 (fun _ => true) true n 3 (List.take (Tryz.prog.cellsOf 3) (List.drop 7 [c0, c1, c2, c3, c4, c5, c6, c7, c8, c9, c10])) = xs[2]? at g
  rw [Tryz.cellsI, e2] at g
  exact g
 have g3 : DataW.trod enc Tryz.prog W 0 (fun _ => true) true n 3 [c8] = some y3 := by
  have g := hF 3 _ rfl
  change DataW.trod enc Tryz.prog W 0 (fun _ => true) true n 3 (List.take (Tryz.prog.cellsOf 3) (List.drop 8 [c0, c1, c2, c3, c4, c5, c6, c7, c8, c9, c10])) = xs[3]? at g
  rw [Tryz.cellsI, e3] at g
  exact g
 have g4 : DataW.trod enc Tryz.prog W 0 (fun _ => true) true n 3 [c9] = some y4 := by
  have g := hF 4 _ rfl
  change DataW.trod enc Tryz.prog W 0 (fun _ => true) true n 3 (List.take (Tryz.prog.cellsOf 3) (List.drop 9 [c0, c1, c2, c3, c4, c5, c6, c7, c8, c9, c10])) = xs[4]? at g
  rw [Tryz.cellsI, e4] at g
  exact g
 have g5 : DataW.trod enc Tryz.prog W 0 (fun _ => true) true n 3 [c10] = some y5 := by
  have g := hF 5 _ rfl
  change DataW.trod enc Tryz.prog W 0 (fun _ => true) true n 3 (List.take (Tryz.prog.cellsOf 3) (List.drop 10 [c0, c1, c2, c3, c4, c5, c6, c7, c8, c9, c10])) = xs[5]? at g
  rw [Tryz.cellsI, e5] at g
  exact g
 clear hF
 obtain ⟨cf, ec⟩ := confE_at g0
 obtain ⟨q, rfl, qb⟩ := eint_at g1
 obtain ⟨b, rfl, bb⟩ := eint_at g2
 obtain ⟨pg, rfl, pgb⟩ := eint_at g3
 obtain ⟨sz, rfl, szb⟩ := eint_at g4
 obtain ⟨ch, rfl, chb⟩ := eint_at g5
 simp [CfV] at ec
 obtain ⟨rfl, rfl, rfl, rfl, rfl, rfl⟩ := ec
 exact ⟨⟨cf, q, b, pg, sz, ch⟩, rfl, ⟨qb, bb, pgb, szb, chb⟩⟩
theorem sp_at {fuel : Nat} {c0 c1 c2 c3 c4 c5 c6 c7 c8 c9 c10 c11 c12 c13 : Value} {x : DataW H × List MemPlace} (hf : DataW.trod enc Tryz.prog W 0 (fun _ => true) true fuel 47 [c0, c1, c2, c3, c4, c5, c6, c7, c8, c9, c10, c11, c12, c13] = some x) :
  ∃ s : Sp, [c0, c1, c2, c3, c4, c5, c6, c7, c8, c9, c10, c11, c12, c13] = (SpV s).toList ∧ SpOk W s := by
 obtain ⟨xs, n, _, _, _, hl, hF⟩ := DataW.trod_struct Tryz.underlying47 hf
 have hl : xs.length = 3 := hl
 obtain ⟨y0, e0⟩ := at_some hl (i := 0) (by omega)
 obtain ⟨y1, e1⟩ := at_some hl (i := 1) (by omega)
 obtain ⟨y2, e2⟩ := at_some hl (i := 2) (by omega)
 have g0 : DataW.trod enc Tryz.prog W 0 (fun _ => true) true n 5 [c0] = some y0 := by
  have g := hF 0 _ rfl
  change DataW.trod enc Tryz.prog W 0 (fun _ => true) true n 5 (List.take (Tryz.prog.cellsOf 5) (List.drop 0 [c0, c1, c2, c3, c4, c5, c6, c7, c8, c9, c10, c11, c12, c13])) = xs[0]? at g
  rw [Tryz.cellsU8, e0] at g
  exact g
 have g1 : DataW.trod enc Tryz.prog W 0 (fun _ => true) true n 4 [c1] = some y1 := by
  have g := hF 1 _ rfl
  change DataW.trod enc Tryz.prog W 0 (fun _ => true) true n 4 (List.take (Tryz.prog.cellsOf 4) (List.drop 1 [c0, c1, c2, c3, c4, c5, c6, c7, c8, c9, c10, c11, c12, c13])) = xs[1]? at g
  rw [Tryz.cellsBo, e1] at g
  exact g
 have g2 : DataW.trod enc Tryz.prog W 0 (fun _ => true) true n 45 [c2, c3, c4, c5, c6, c7, c8, c9, c10, c11, c12, c13] = some y2 := by
  have g := hF 2 _ rfl
  change DataW.trod enc Tryz.prog W 0 (fun _ => true) true n 45 (List.take (Tryz.prog.cellsOf 45) (List.drop 2 [c0, c1, c2, c3, c4, c5, c6, c7, c8, c9, c10, c11, c12, c13])) = xs[2]? at g
  rw [Tryz.cellsMs, e2] at g
  exact g
 clear hF
 obtain ⟨kd, rfl, kdb⟩ := eu8_at g0
 obtain ⟨nw, rfl⟩ := ebool_at g1
 obtain ⟨m, em, hm, ho⟩ := ms_at g2
 simp [MsV] at em
 obtain ⟨rfl, rfl, rfl, rfl, rfl, rfl, rfl, rfl, rfl, rfl, rfl, rfl⟩ := em
 exact ⟨⟨kd, nw, m⟩, rfl, kdb, hm, ho⟩
theorem sg_open {b0 : Nat} {v : Value} {d : DataW H} {ps : List MemPlace} (hv : Value.okWide Tryz.prog W .any b0 26 v) (h : DataW.Trod enc Tryz.prog W 0 (fun _ => true) true 26 v d ps) :
  ∃ s : Sg, v = .agg (SgV s) ∧ SgOk s := by
 obtain ⟨cs, rfl, hsz⟩ := okWide_struct Tryz.underlying26 hv
 rw [Tryz.cellsSg] at hsz
 obtain ⟨c0, c1, c2, c3, c4, c5, c6, c7, c8, c9, c10, rfl⟩ := arrayN11 hsz
 obtain ⟨fuel, hf⟩ := h
 obtain ⟨s, em, ho⟩ := sg_at hf
 refine ⟨s, ?_, ho⟩
 congr 1
 exact Array.toList_inj.1 em
theorem steps15_open {b0 : Nat} {v : Value} {d : DataW H} {ps : List MemPlace} (hv : Value.okWide Tryz.prog W .any b0 27 v) (h : DataW.Trod enc Tryz.prog W 0 (fun _ => true) true 27 v d ps) :
  ∃ a len cap xs, v = .slice a len cap ∧ Lst W a len cap 14 xs SpV (fun s => SpOk W s) := by
 obtain ⟨a, len, cap, rfl⟩ := okWide_slice Tryz.underlying27 hv
 obtain ⟨fuel, hf⟩ := h
 change DataW.trod enc Tryz.prog W 0 (fun _ => true) true fuel 27 [.slice a len cap] = _ at hf
 rcases Go.Deep.open_slice Tryz.underlying27 hf with ⟨hcs, _⟩ | ⟨ad, l, c, m, n, D, Pl, hcs, _, hl, hm, hmm, _, hx⟩
 ·simp at hcs
  obtain ⟨rfl, rfl, rfl⟩ := hcs
  exact ⟨none, 0, 0, [], rfl, rfl, Nat.le_refl _, by omega, fun _ => ⟨rfl, rfl⟩, fun i hi => absurd hi (by simp), fun i hi => absurd hi (by simp)⟩
 ·simp at hcs
  obtain ⟨rfl, rfl, rfl⟩ := hcs
  have hlm : len ≤ m := by rw [hmm]; simpa using hl
  rw [Tryz.cellsSp] at hx
  have each : ∀ i, i < len → ∃ x, (fun s => SpOk W s) x ∧ ∀ j, j < 14 → W.cell? ((ad.add (i * 14)).add j) = (SpV x)[j]? := fun i hi => by
   obtain ⟨cs, h1, h2⟩ := hx i (by omega)
   obtain ⟨_, hlen, hcell⟩ := World.cells?_some h1
   obtain ⟨c0, c1, c2, c3, c4, c5, c6, c7, c8, c9, c10, c11, c12, c13, rfl⟩ := listN14 hlen
   obtain ⟨x, em, hi2⟩ := sp_at h2
   refine ⟨x, hi2, fun j hj => ?_⟩
   rw [hcell j hj, em]
   simp
  have hspot : 0 < len → ad.spot = none := fun h0 => by
   obtain ⟨x, _, hc⟩ := each 0 h0
   have := hc 0 (by omega)
   obtain ⟨b, off, spot⟩ := ad
   have h3 : ∃ u, (SpV x)[0]? = some u := ⟨_, rfl⟩
   obtain ⟨u, hu⟩ := h3
   rw [hu] at this
   simpa [Addr.add] using World.cell?_spot this
  have lt : ∀ i : Fin len, i.1 < len := fun i => i.2
  refine ⟨some ad, len, cap, List.ofFn fun i : Fin len => (each i.1 i.2).choose, rfl, by simp, hl, by unfold maxLen at hm; omega, (fun e => by cases e), fun i hi => ?_, fun i hi => ?_⟩
  ·have hi' : i < len := by simpa using hi
   have hs := hspot (by omega)
   obtain ⟨b, off, spot⟩ := ad
   simp only at hs
   subst hs
   refine ⟨b, off, rfl, fun j hj => ?_⟩
   have e : (⟨b, off + i * 14 + j, none⟩ : Addr) = ((⟨b, off, none⟩ : Addr).add (i * 14)).add j := by rw [Go.WideShapes.add_plain, Go.WideShapes.add_plain]
   rw [List.getElem_ofFn, e]
   exact (each i hi').choose_spec.2 j hj
  ·have hi' : i < len := by simpa using hi
   rw [List.getElem_ofFn]
   exact (each i hi').choose_spec.1
end Args
end Go.Proofs.YtjgggialnegddaaGreat
namespace Go.Proofs.YtjgggialnegddaaGreat
open Go.RowKit Go.Maps
theorem alaw : Keyed Tryz.prog 22 := int_keyed Tryz.underlying22
theorem azero (w : World) : (zeroValue 88).run Tryz.prog w = .ok (.pointer none) w := by kernel_rfl
theorem isU.wf {x : Int} (h : isU x) : (Lit.int .u64 x).wf = true := WalkArith.wf_u64 h
theorem akey {x : Int} (h : isU x) : keyOf Tryz.prog 22 (.int .u64 x) = some (.int .u64 x) := keyOf_int_mk Tryz.underlying22 h.wf
def AmAt (W : World) (B c : Nat) (f : Int → Option Nat) : Prop :=
 ∃ D : DataW Unit, W.ownsMap Tryz.prog 22 Rp B c D ∧ (∀ x, isU x → D.atKey (.int .u64 x) (.lit (.int .i64 (-1))) = .lit (.int .i64 (codeP (f x))) ∧ Maps.has D (.int .u64 x) = (f x).isSome) ∧ Maps.size D = c
theorem AmAt.new (w : World) : AmAt (w.alloc (.map #[] 0)) w.heap.size 0 (fun _ => none) := ⟨.map [], World.ownsMap_made _ _ _ _, fun v _ => ⟨rfl, rfl⟩, rfl⟩
theorem AmAt.lt {W : World} {B c : Nat} {f : Int → Option Nat} (h : AmAt W B c f) : B < W.heap.size := by obtain ⟨D, h1, _⟩ := h; exact h1.lt
theorem AmAt.blk {W : World} {B c : Nat} {f : Int → Option Nat} (h : AmAt W B c f) : ∃ es clock, W.heap[B]? = some (.map es clock) := by
 obtain ⟨D, ⟨es, clock, h1, h2⟩, h3⟩ := h
 exact ⟨es, clock, h1⟩
theorem AmAt.same {W W' : World} {B c : Nat} {f : Int → Option Nat} (h : AmAt W B c f) (hb : W'.heap[B]? = W.heap[B]?) : AmAt W' B c f := by
 obtain ⟨D, ⟨es, clock, h1, h2⟩, h3⟩ := h
 exact ⟨D, ⟨es, clock, hb.trans h1, h2⟩, h3⟩
theorem AmAt.below {W W' : World} {B c : Nat} {f : Int → Option Nat} (h : AmAt W B c f) (hb : Below W.heap.size W W') : AmAt W' B c f := h.same (hb.block _ h.lt)
theorem AmAt.ext {W : World} {B c : Nat} {f g : Int → Option Nat} (h : AmAt W B c f) (he : ∀ x, isU x → f x = g x) : AmAt W B c g := by
 obtain ⟨D, h1, h2, h3⟩ := h
 exact ⟨D, h1, fun x hx => by rw [← he x hx]; exact h2 x hx, h3⟩
theorem owns_tight {W : World} {B n : Nat} {D : DataW Unit} (h : W.ownsMap Tryz.prog 22 Rp B n D) : W.ownsMap Tryz.prog 22 Rp B (Maps.size D) D := by
 obtain ⟨es, clock, h1, h2, h3, rfl⟩ := h
 refine ⟨es, clock, h1, h2, ?_, rfl⟩
 rw [size_eq, length_read]
 exact Nat.le_refl _
theorem AmAt.look {W : World} {B c : Nat} {f : Int → Option Nat} (h : AmAt W B c f) {x : Int} (hx : isU x) : (Instr.lookup 71 (.map (some B)) (.int .u64 x) false).run Tryz.prog W = .ok (.pointer (ptrP (f x))) W := by
 obtain ⟨D, h1, h2, _⟩ := h
 obtain ⟨u, ps, hr, hu⟩ := h1.lookup alaw Tryz.underlying71 (azero W) (zd := .lit (.int .i64 (-1))) (zp := []) rfl (akey hx)
 rw [(h2 x hx).1] at hu
 rw [hr, Rp_inv hu]
theorem AmAt.store {W : World} {B c : Nat} {f : Int → Option Nat} (h : AmAt W B c f) (hn : c ≤ 100000) {x : Int} (hx : isU x) (b : Nat) :
  ∃ W', (Instr.mapUpdate 71 (.map (some B)) (.int .u64 x) (.pointer (some ⟨b, 0, none⟩))).run Tryz.prog W = .ok () W' ∧ (f x = none → ∀ g : Int → Option Nat, g x = some b → (∀ u, u ≠ x → g u = f u) → AmAt W' B (c + 1) g) ∧ W.mapTurned W' B := by
 obtain ⟨D, h1, h2, h3⟩ := h
 obtain ⟨W', hr, ho, hg⟩ := h1.store alaw Tryz.underlying71 (by unfold maxLen; omega) (akey hx) (Rp_mk b)
 refine ⟨W', hr, fun hf g g1 g2 => ⟨_, ho, fun u hu => ?_, ?_⟩, hg⟩
 ·by_cases e : u = x
  ·subst e
   rw [atKey_put_same h1.isMap (alaw.key (akey hx)), has_put_same h1.isMap (alaw.key (akey hx)), g1]
   exact ⟨rfl, rfl⟩
  ·have hne : Lit.int .u64 u ≠ Lit.int .u64 x := fun e2 => e (by cases e2; rfl)
   rw [atKey_put_other hne, has_put_other hne, g2 u e]
   exact h2 u hu
 ·rw [size_put (h1.tidy alaw), (h2 x hx).2, hf, h3]
  simp
theorem AmAt.drop {W : World} {B c : Nat} {f : Int → Option Nat} (h : AmAt W B c f) {x : Int} (hx : isU x) (ty : TypeId) :
  ∃ W', (Builtin.delete_ #[71, 22] ty #[.map (some B), .int .u64 x]).run Tryz.prog W = .ok (.tuple #[]) W' ∧ (∀ g : Int → Option Nat, g x = none → (∀ u, u ≠ x → g u = f u) → AmAt W' B (c - (if (f x).isSome then 1 else 0)) g) ∧ W.mapTurned W' B := by
 obtain ⟨D, h1, h2, h3⟩ := h
 obtain ⟨W', hr, ho, hg⟩ := h1.drop alaw Tryz.underlying71 (akey hx) ty
 have hs := size_del (k := Lit.int .u64 x) (h1.tidy alaw)
 rw [(h2 x hx).2, h3] at hs
 have hs2 : Maps.size (D.del (.int .u64 x)) = c - (if (f x).isSome then 1 else 0) := by omega
 refine ⟨W', hr, fun g g1 g2 => ⟨_, hs2 ▸ owns_tight ho, fun u hu => ?_, hs2⟩, hg⟩
 by_cases e : u = x
 ·subst e
  rw [atKey_del_same, has_del_same, g1]
  exact ⟨rfl, rfl⟩
 ·have hne : Lit.int .u64 u ≠ Lit.int .u64 x := fun e2 => e (by cases e2; rfl)
  rw [atKey_del_other hne, has_del_other hne, g2 u e]
  exact h2 u hu
theorem AmAt.len {W : World} {B c : Nat} {f : Int → Option Nat} (h : AmAt W B c f) (ty : TypeId) : (Builtin.len_ #[71] ty #[.map (some B)]).run Tryz.prog W = .ok (.int .i64 c) W := by
 obtain ⟨D, h1, h2, h3⟩ := h
 have := h1.len Tryz.underlying71 ty
 rw [h3] at this
 exact this
theorem AmAt.wipe {W : World} {B c : Nat} {f : Int → Option Nat} (h : AmAt W B c f) (ty : TypeId) :
  ∃ W', (Builtin.clear_ #[71] ty #[.map (some B)]).run Tryz.prog W = .ok (.tuple #[]) W' ∧ AmAt W' B 0 (fun _ => none) ∧ Fb (at1 B) W W' := by
 obtain ⟨es, clock, hb⟩ := h.blk
 refine ⟨{ W with heap := W.heap.setIfInBounds B (.map #[] clock) }, ?_, ⟨.map [], ⟨#[], clock, (MapKept.heap_set hb).1, ⟨by simp, MapKept.stamped_empty clock, by simp⟩, Nat.le_refl _, rfl⟩, fun v _ => ⟨rfl, rfl⟩, rfl⟩, ⟨rfl, rfl, rfl, by simp, fun k _ hk => (MapKept.heap_set hb).2 k hk⟩⟩
 simp [Builtin.clear_, run_underlying Tryz.underlying71, MapKept.run_getObj_map hb, MapKept.run_setObj_map _ hb, Result.andThen]
end Go.Proofs.YtjgggialnegddaaGreat
