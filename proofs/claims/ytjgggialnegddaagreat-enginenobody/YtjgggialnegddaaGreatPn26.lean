/-
  The texts RRef, EnMath of this proof.
-/
import Derived.Test.YtjgggialnegddaaGreatPn25
import Derived.Test.YtjgggialnegddaaGreatPn13
import Derived.Deep.QuietTactic
import Derived.BigQuiet
set_option linter.unusedVariables false
set_option maxRecDepth 1000000
namespace Go.Proofs.YtjgggialnegddaaGreat
open Go.RowKit
theorem mayJ_iff {v most : Int} {ts : List Int} : mayJ v most ts = true ↔ 0 ≤ most ∧ most ≤ 256 ∧ ts.length ≤ 255 ∧ ∀ i, i < ts.length → 0 ≤ ts[i]?.getD 0 ∧ ts[i]?.getD 0 < v := by
 unfold mayJ
 simp only [Bool.and_eq_true, decide_eq_true_eq, List.all_eq_true]
 refine ⟨fun ⟨h1, h2, h3, h4⟩ => ⟨h1, h2, h3, fun i hi => ?_⟩, fun ⟨h1, h2, h3, h4⟩ => ⟨h1, h2, h3, fun t ht => ?_⟩⟩
 ·rw [List.getElem?_eq_getElem hi]; exact h4 _ (List.getElem_mem hi)
 ·obtain ⟨i, hi, rfl⟩ := List.getElem_of_mem ht
  have := h4 i hi
  rwa [List.getElem?_eq_getElem hi] at this
theorem mayJ_no {v most : Int} {ts : List Int} (h : ¬ (0 ≤ most ∧ most ≤ 256 ∧ ts.length ≤ 255 ∧ ∀ i, i < ts.length → 0 ≤ ts[i]?.getD 0 ∧ ts[i]?.getD 0 < v)) : mayJ v most ts = false := by
 rw [Bool.eq_false_iff]; exact fun e => h (mayJ_iff.1 e)
def slen : Value → Nat
 | .slice _ n _ => n
 | _ => 0
theorem own_slen {w : World} {base e n : Nat} {v : Value} {xs : List Value} (h : w.ownsRow base e 1 v n xs) : slen v = n := by
 rcases id h.2 with ⟨rfl, rfl⟩ | ⟨g, c, cur, rfl, _⟩
 ·rfl
 ·rfl
end Go.Proofs.YtjgggialnegddaaGreat
namespace Go.Proofs.YtjgggialnegddaaGreat
open Go.RowKit
structure Mg where
 kind : Int
 att : Int
 inc : Int
 n : Int
 cnt : Int
 why : Int
 li : List Int
def ovM (id inc n why : Int) : Mg := ⟨9, id, inc, n, 0, why, []⟩
def emM (id inc n : Int) (li : List Int) : Mg := ⟨8, id, inc, n, 0, 0, li⟩
def poM (n inc cnt : Int) : Mg := ⟨11, 0, inc, n, cnt, 0, []⟩
structure At where
 id : Int
 seed : Int
 ts : List Int
 most : Nat
 k : Nat
 run : Bool
noncomputable def At.text (c : Cf) (a : At) : List Int := refL c a.seed (0 :: a.ts) a.most
structure Rs where
 s : Sg
 inc : Int
 dr : Bool
 L : List At
 tk : Nat
def setB (s : Sg) : Bool := mayB s.c && (btw s.q 1 64 && (btw s.b 1 16 && (btw s.ch 1 16 && (decide (s.pg = 0) || (btw s.pg 1 256 && btw s.sz 1 16)))))
def waitN (L : List At) : Nat := (L.filter fun a => !a.run).length
def fitB (c : Cf) (m : Ms) : Bool := mayJ c.vocab m.job.most m.job.ts && (decide (m.n ≤ m.job.most) && decide (m.n + m.job.ts.length < 256))
def hasB (L : List At) (id : Int) : Bool := L.any fun a => a.id == id
def newA (m : Ms) : At := ⟨m.att, m.job.seed, m.job.ts, m.job.most.toNat, m.n.toNat, false⟩
def startB (S : Rs) (m : Ms) : Bool := fitB S.s.c m && (!S.dr && decide ((waitN S.L : Int) < S.s.q))
def arrM (S : Rs) (m : Ms) : List Mg :=
 if m.kind = 10 then [poM m.n S.inc S.L.length]
 else if m.kind = 6 then
  if m.inc ≠ S.inc then [ovM m.att m.inc m.n 3]
  else if hasB S.L m.att = true then [] else if startB S m = true then [] else [ovM m.att m.inc m.n 2]
 else []
def arrS (S : Rs) (m : Ms) : Rs :=
 if m.inc ≠ S.inc then S
 else if m.kind = 6 then (if hasB S.L m.att = true then S else if startB S m = true then { S with L := S.L ++ [newA m] } else S)
 else if m.kind = 7 then { S with L := S.L.filter fun a => !(a.id == m.att) }
 else if m.kind = 12 then { S with dr := true }
 else S
def runL (b : Nat) : Nat → List At → List At
 | _, [] => []
 | n, a :: L => if a.run = true then a :: runL b (n + 1) L else if n < b then { a with run := true } :: runL b (n + 1) L else a :: runL b n L
def TellR (c : Cf) (ch : Nat) (inc : Int) (a : At) (ms : List Mg) (o : Option At) : Prop :=
 ((a.text c).length < a.k ∧ ms = [ovM a.id inc a.k 1] ∧ o = none) ∨
 (a.k ≤ (a.text c).length ∧ ∃ told, told = ((a.text c).drop a.k).take ch ∧
  ((told.length = ch ∧ ms = (if told = [] then [] else [emM a.id inc a.k told]) ∧ o = some { a with k := a.k + told.length }) ∨
   (a.k + told.length = (a.text c).length ∧ ms = (if told = [] then [] else [emM a.id inc a.k told]) ++ [ovM a.id inc (a.k + told.length : Nat) 1] ∧ o = none)))
def TellsR (c : Cf) (ch : Nat) (inc : Int) : List At → List Mg → List At → Prop
 | [], ms, L' => ms = [] ∧ L' = []
 | a :: L, ms, L' => (a.run = false ∧ ∃ L2, L' = a :: L2 ∧ TellsR c ch inc L ms L2) ∨ (a.run = true ∧ ∃ m1 m2 o L2, ms = m1 ++ m2 ∧ L' = o.toList ++ L2 ∧ TellR c ch inc a m1 o ∧ TellsR c ch inc L m2 L2)
def StepR (S : Rs) (ms : List Mg) (S' : Rs) : Prop := ∃ L', TellsR S.s.c S.s.ch.toNat S.inc (runL S.s.b.toNat 0 S.L) ms L' ∧ S' = { S with L := L', tk := S.tk + 32 }
end Go.Proofs.YtjgggialnegddaaGreat
