/-
  The texts RVecs2, JArgs, EnArgs, EnMap of this proof.
-/
import Derived.Test.YtjgggialnegddaaGreatPr10
import Derived.Test.YtjgggialnegddaaGreatPr11
import Derived.Test.YtjgggialnegddaaGreatPr01
import Derived.ProofKit
import Derived.Deep.Slices
import Derived.Test.YtjgggialnegddaaGreatPr02
set_option linter.unusedVariables false
set_option maxRecDepth 1000000
namespace Go.Proofs.YtjgggialnegddaaGreat
open Go.RowKit
theorem map_snoc {f : Int → Int} {zs : List Int} {k : Nat} (h : k < zs.length) : (zs.take k).map f ++ [f (zs[k]?.getD 0)] = (zs.take (k + 1)).map f := by
 rw [take_snoc h, List.map_append]; rfl
theorem map_all {f : Int → Int} {zs : List Int} {n : Nat} (h : zs.length = n) : (zs.take n).map f = zs.map f := by rw [List.take_of_length_le (by omega)]
set_option maxHeartbeats 1000000 in
theorem rvscale_any (a : Option Addr) (len cap : Nat) (zs : List Int) (by_ : Int) (w : World) (ha : Reads .i64 w a len cap zs) (hlen : len ≤ 1000) :
  Calls Tryz.prog 170 #[.slice a len cap, .int .i64 by_] w fun e w' => Gives w len (zs.map (mulZ · by_)) e w' := by
 obtain ⟨i0, hi, hz0, hz1, hz2⟩ := info_parts Tryz.info2
 have HBo := hid fun W (h : Below w.heap.size w W) => rcut_any a len cap zs W (ha.below h) hlen
 have HL : Hid (zs.length = len) := ha.size
 have HA := hid ha
 clear ha
 go_enter Tryz.func170, Tryz.ntmps170
 go_wp2_with fail
 go_loopw [5, 6] (fun u i W => ∃ k : Nat, k ≤ len ∧ i = .int .i64 k ∧ Hid (W.ownsRow w.heap.size 2 1 u k (((zs.take k).map (mulZ · by_)).map (Value.int .i64))) ∧ Hid (Below w.heap.size w W)) (fun _ i _ => len - (intOf i).toNat)
 case atStart => exact ⟨0, Nat.zero_le _, rfl, World.ownsRow_nil _ _ _ _, Below.refl _ _⟩
 case round =>
  obtain ⟨k, hk, rfl, HO, HW⟩ := hrel
  have hBo := HBo.out wr HW.out
  by_cases hlt : k < len
  ·obtain ⟨b1, o1, rfl, c1⟩ := (HA.out.below HW.out).cell k (by omega)
   have r1 := HA.out.room
   have m1 := HA.out.most
   have HE := hid (map_snoc (f := (mulZ · by_)) (zs := zs) (k := k) (by have := HL.out; omega))
   have HS : Hid (w.heap.size ≤ wr.heap.size) := HW.out.size
   clear HA HBo
   generalize zs[k]?.getD 0 = x at *
   generalize (zs.take k).map (mulZ · by_) = us at *
   go_wp2_with fail
   refine hBo.mono ?_
   rintro e w' ⟨rfl, rfl⟩
   clear hBo
   rename World => wr
   go_wp2_with fail
   refine (rmul_any _ _ _).mono ?_
   rintro e w' ⟨rfl, rfl⟩
   rename World => wr
   go_wp2_with (at_builtin; refine append_any _ rfl (.tmp 14) (.tmp 21) 131 rfl w.heap.size 2 i0 (.int .i64 0) 8 Tryz.underlying131 hi hz0 hz1 hz2 rfl .i64 _ k us rfl (HO.out.alloc _) _ 1 1 [mulZ x by_] rfl (Reads.one _ _ _) (by omega) (by omega) (Nat.le_trans HS.out (by simp)) ?_; intro v' w3 hO3 hb3)
   have HB3 := hid ((HW.out.alloc HS.out _).trans hb3)
   have HO3 : Hid (w3.ownsRow w.heap.size 2 1 v' (k + 1) (((zs.take (k + 1)).map (mulZ · by_)).map (Value.int .i64))) := by rw [← HE.out]; exact hO3
   clear hO3 hb3
   go_round
   case rel => exact ⟨k + 1, by omega, by go_num, HO3, HB3⟩
   case measure => simp [intOf]; omega
  ·obtain rfl : k = len := by omega
   have HE : Hid (wr.ownsRow w.heap.size 2 1 u5 k ((zs.map (mulZ · by_)).map (Value.int .i64))) := by rw [← map_all HL.out]; exact HO.out
   clear HA HBo
   go_wp2_with fail
   refine hBo.mono ?_
   rintro e w' ⟨rfl, rfl⟩
   clear hBo
   go_wp2
   go_ret
   exact gives_own HE.out HW.out
set_option maxHeartbeats 1000000 in
theorem rvrelu_any (a : Option Addr) (len cap : Nat) (zs : List Int) (w : World) (ha : Reads .i64 w a len cap zs) (hlen : len ≤ 1000) :
  Calls Tryz.prog 139 #[.slice a len cap] w fun e w' => Gives w len (zs.map (fun n => max (wi n) 0)) e w' := by
 obtain ⟨i0, hi, hz0, hz1, hz2⟩ := info_parts Tryz.info2
 have HBo := hid fun W (h : Below w.heap.size w W) => rcut_any a len cap zs W (ha.below h) hlen
 have HL : Hid (zs.length = len) := ha.size
 have HA := hid ha
 clear ha
 go_enter Tryz.func139, Tryz.ntmps139
 go_wp2_with fail
 go_loopw [3, 4] (fun u i W => ∃ k : Nat, k ≤ len ∧ i = .int .i64 k ∧ Hid (W.ownsRow w.heap.size 2 1 u k (((zs.take k).map (fun n => max (wi n) 0)).map (Value.int .i64))) ∧ Hid (Below w.heap.size w W)) (fun _ i _ => len - (intOf i).toNat)
 case atStart => exact ⟨0, Nat.zero_le _, rfl, World.ownsRow_nil _ _ _ _, Below.refl _ _⟩
 case round =>
  obtain ⟨k, hk, rfl, HO, HW⟩ := hrel
  have hBo := HBo.out wr HW.out
  by_cases hlt : k < len
  ·obtain ⟨b1, o1, rfl, c1⟩ := (HA.out.below HW.out).cell k (by omega)
   have r1 := HA.out.room
   have m1 := HA.out.most
   have HE := hid (map_snoc (f := fun n => max (wi n) 0) (zs := zs) (k := k) (by have := HL.out; omega))
   have HS : Hid (w.heap.size ≤ wr.heap.size) := HW.out.size
   clear HA HBo
   generalize zs[k]?.getD 0 = x at *
   generalize (zs.take k).map (fun n => max (wi n) 0) = us at *
   rcases Int.lt_or_le (wi x) 0 with hx | hx
   ·have HX : Hid (max (wi x) 0 = 0) := by unfold Hid; omega
    rw [HX.out] at HE
    go_wp2_with fail
    refine hBo.mono ?_
    rintro e w' ⟨rfl, rfl⟩
    clear hBo
    rename World => wr
    go_wp2_with fail
    refine (rwithin_any _ _).mono ?_
    rintro e w' ⟨rfl, rfl⟩
    rename World => wr
    go_wp2_with (at_builtin; refine append_any _ rfl (.tmp 12) (.tmp 19) 131 rfl w.heap.size 2 i0 (.int .i64 0) 8 Tryz.underlying131 hi hz0 hz1 hz2 rfl .i64 _ k us rfl (HO.out.alloc _) _ 1 1 [0] rfl (Reads.one _ _ _) (by omega) (by omega) (Nat.le_trans HS.out (by simp)) ?_; intro v' w3 hO3 hb3)
    have HB3 := hid ((HW.out.alloc HS.out _).trans hb3)
    have HO3 : Hid (w3.ownsRow w.heap.size 2 1 v' (k + 1) (((zs.take (k + 1)).map (fun n => max (wi n) 0)).map (Value.int .i64))) := by rw [← HE.out]; exact hO3
    clear hO3 hb3
    go_round
    case rel => exact ⟨k + 1, by omega, by go_num, HO3, HB3⟩
    case measure => simp [intOf]; omega
   ·have HX : Hid (max (wi x) 0 = wi x) := by unfold Hid; omega
    rw [HX.out] at HE
    go_wp2_with fail
    refine hBo.mono ?_
    rintro e w' ⟨rfl, rfl⟩
    clear hBo
    rename World => wr
    go_wp2_with fail
    refine (rwithin_any _ _).mono ?_
    rintro e w' ⟨rfl, rfl⟩
    rename World => wr
    go_wp2_with (at_builtin; refine append_any _ rfl (.tmp 12) (.tmp 19) 131 rfl w.heap.size 2 i0 (.int .i64 0) 8 Tryz.underlying131 hi hz0 hz1 hz2 rfl .i64 _ k us rfl (HO.out.alloc _) _ 1 1 [wi x] rfl (Reads.one _ _ _) (by omega) (by omega) (Nat.le_trans HS.out (by simp)) ?_; intro v' w3 hO3 hb3)
    have HB3 := hid ((HW.out.alloc HS.out _).trans hb3)
    have HO3 : Hid (w3.ownsRow w.heap.size 2 1 v' (k + 1) (((zs.take (k + 1)).map (fun n => max (wi n) 0)).map (Value.int .i64))) := by rw [← HE.out]; exact hO3
    clear hO3 hb3
    go_round
    case rel => exact ⟨k + 1, by omega, by go_num, HO3, HB3⟩
    case measure => simp [intOf]; omega
  ·obtain rfl : k = len := by omega
   have HE : Hid (wr.ownsRow w.heap.size 2 1 u3 k ((zs.map (fun n => max (wi n) 0)).map (Value.int .i64))) := by rw [← map_all HL.out]; exact HO.out
   clear HA HBo
   go_wp2_with fail
   refine hBo.mono ?_
   rintro e w' ⟨rfl, rfl⟩
   clear hBo
   go_wp2
   go_ret
   exact gives_own HE.out HW.out
set_option maxHeartbeats 2000000 in
theorem rvnorm_any (a : Option Addr) (len cap : Nat) (zs : List Int) (w : World) (ha : Reads .i64 w a len cap zs) (hlen : len ≤ 1000) :
  Calls Tryz.prog 130 #[.slice a len cap] w fun e w' => Gives w len (normL zs) e w' := by
 have hz := ha.size
 subst hz
 obtain ⟨i0, hi, hz0, hz1, hz2⟩ := info_parts Tryz.info2
 have hD := rvdot_any a a _ cap _ cap zs zs w ha ha hlen hlen
 rw [Nat.min_self] at hD
 have HBo := hid fun W (h : Below w.heap.size w W) => rcut_any a zs.length cap zs W (ha.below h) hlen
 have HA := hid ha
 obtain ⟨mm, hmm⟩ : ∃ mm, addZ (divZ (dotK zs zs zs.length) (fromZ zs.length)) 1 = mm := ⟨_, rfl⟩
 have HR : Hid (sqrtZ mm = rootZ zs) := by unfold rootZ; rw [hmm]; exact rfl
 have HMM := hid hmm
 clear ha hmm
 go_enter Tryz.func130, Tryz.ntmps130
 go_wp2_with fail
 refine hD.mono ?_
 rintro e w1 ⟨rfl, hb1⟩
 have hBo1 := HBo.out w1 hb1
 have HB1 := hid hb1
 clear hD hb1
 go_wp2_with fail
 refine hBo1.mono ?_
 rintro e w' ⟨rfl, rfl⟩
 clear hBo1
 rename World => w1
 go_wp2_with fail
 refine (rfrom_any _ _).mono ?_
 rintro e w' ⟨rfl, rfl⟩
 go_wp2_with fail
 refine (rdiv_any _ _ _).mono ?_
 rintro e w' ⟨rfl, rfl⟩
 go_wp2_with fail
 refine (radd_any _ _ _).mono ?_
 rintro e w' ⟨rfl, rfl⟩
 rw [HMM.out]
 rename World => w1
 go_wp2_with fail
 go_loopw [4, 5] (fun u i W => ∃ k : Nat, k ≤ zs.length ∧ i = .int .i64 k ∧ Hid (W.ownsRow w.heap.size 2 1 u k (((zs.take k).map (divZ · (rootZ zs))).map (Value.int .i64))) ∧ Hid (Below w.heap.size w W)) (fun _ i _ => zs.length - (intOf i).toNat)
 case atStart => exact ⟨0, Nat.zero_le _, rfl, World.ownsRow_nil _ _ _ _, HB1⟩
 case round =>
  obtain ⟨k, hk, rfl, HO, HW⟩ := hrel
  clear HB1
  rename World => wr
  have hBo := HBo.out wr HW.out
  by_cases hlt : k < zs.length
  ·obtain ⟨b1, o1, rfl, c1⟩ := (HA.out.below HW.out).cell k (by omega)
   have HK : Hid (∀ W, Below w.heap.size w W → W.cell? ⟨b1, o1 + k, none⟩ = some (.int .i64 (zs[k]?.getD 0))) := by
    intro W h
    obtain ⟨b, o, e, c⟩ := (HA.out.below h).cell k (by omega)
    cases e
    exact c
   have r1 := HA.out.room
   have m1 := HA.out.most
   have q1 : (k : Int) < (zs.length : Int) := by omega
   have HE := hid (map_snoc (f := (divZ · (rootZ zs))) (zs := zs) (k := k) hlt)
   have HS : Hid (w.heap.size ≤ wr.heap.size) := HW.out.size
   clear HA HBo
   generalize zs[k]?.getD 0 = x at *
   generalize rootZ zs = rt at *
   generalize (zs.take k).map (divZ · rt) = us at *
   go_wp2_with fail
   refine hBo.mono ?_
   rintro e w' ⟨rfl, rfl⟩
   clear hBo
   rename World => wr
   go_wp2_with fail
   go_region_held3 (fun W : World => W.cell? ⟨b1, o1 + k, none⟩ = some (.int .i64 x)) (first | exact c1 | assumption | exact HK.out _ (HW.out.alloc HS.out _) | exact HK.out _ (HW.out.drew.alloc HS.out _) | exact HK.out _ HB3.out) (first | (go_at_call 133; refine (rsqrt_any _ _).mono ?_; rintro e w' ⟨rfl, rfl⟩; rw [HR.out]) | (go_at_call 135; refine (rdiv_any _ _ _).mono ?_; rintro e w' ⟨rfl, rfl⟩) | (refine step_append_reads (by rfl) 31 (by rfl) (.tmp 22) (.tmp 30) 131 (by rfl) w.heap.size 2 i0 (.int .i64 0) 8 Tryz.underlying131 hi hz0 hz1 hz2 rfl .i64 _ k us (by rfl) (HO.out.alloc _) _ 1 1 [divZ x rt] (by rfl) (Reads.oned _ _ _) (by omega) (by omega) (by omega) (Nat.le_trans HS.out (by simp)) ?_; intro v' w3 hO3 hb3; have HB3 := hid ((HW.out.alloc HS.out _).drew.trans hb3)))
   have HO3 : Hid (w3.ownsRow w.heap.size 2 1 v' (k + 1) (((zs.take (k + 1)).map (divZ · rt)).map (Value.int .i64))) := by rw [← HE.out]; exact hO3
   clear hO3 hb3 HK c1
   go_wp2_with fail
   go_round
   case rel => exact ⟨k + 1, by omega, by go_num, HO3, HB3⟩
   case measure => simp [intOf]; omega
  ·obtain rfl : k = zs.length := by omega
   have HE : Hid (wr.ownsRow w.heap.size 2 1 u4 zs.length ((normL zs).map (Value.int .i64))) := by unfold normL; rw [← map_all rfl]; exact HO.out
   clear HA HBo
   go_wp2_with fail
   refine hBo.mono ?_
   rintro e w' ⟨rfl, rfl⟩
   clear hBo
   go_wp2
   go_ret
   exact gives_own HE.out HW.out
end Go.Proofs.YtjgggialnegddaaGreat
namespace Go.Proofs.YtjgggialnegddaaGreat
open Go.RowKit
theorem nums_at {H : Type} {enc : TypeId × Value → H} {w : World} {held : Bool} {fuel : Nat} {c : Value} {x : DataW H × List MemPlace}
  (h : DataW.trod enc Tryz.prog w 0 (fun _ => true) held fuel 41 [c] = some x) : ∃ a len cap zs, c = .slice a len cap ∧ Reads .i64 w a len cap zs := by
 rcases Go.ChangeShapes.open_ints Tryz.underlying41 Tryz.underlying3 (by kernel_rfl) h with ⟨hcs, _⟩ | ⟨ad, l, k, zs, hcs, _, hl, hm, hz, _, hx, hw⟩
 ·simp at hcs
  subst hcs
  exact ⟨none, 0, 0, [], rfl, Reads.nil _ _⟩
 ·simp at hcs
  subst hcs
  exact ⟨_, _, _, _, rfl, (Reads.row (zs := zs) (.inr ⟨ad, rfl, hl, hm, by simpa using hz, hx, hw⟩)).1⟩
structure Jb where
 seed : Int
 ap : Option Addr
 lp : Nat
 cp : Nat
 ts : List Int
 most : Int
def JbV (j : Jb) : Array Value := #[.int .u64 j.seed, .slice j.ap j.lp j.cp, .int .i64 j.most]
def JbIn (w : World) (j : Jb) : Prop := Reads .i64 w j.ap j.lp j.cp j.ts
theorem Jb_cells {W : World} {g : Nat} {j : Jb} {T : TypeId} (h : W.heap[g]? = some (.cells (JbV j) T (0, 0))) :
  W.cell? ⟨g, 0, none⟩ = some (.int .u64 j.seed) ∧ W.cell? ⟨g, 1, none⟩ = some (.slice j.ap j.lp j.cp) ∧ W.cell? ⟨g, 2, none⟩ = some (.int .i64 j.most) := by
 refine ⟨?_, ?_, ?_⟩ <;> (rw [cell_of_row _ _ _ _ _ _ h]; rfl)
theorem Tryz.cellsJb : Tryz.prog.cellsOf 43 = 3 := by kernel_rfl
theorem Tryz.cellsNs : Tryz.prog.cellsOf 41 = 1 := by kernel_rfl
section
open Go.ChangeShapes Go.WideShapes Go.ChangeAt
variable {H : Type} {enc : TypeId × Value → H} {W : World}
end
end Go.Proofs.YtjgggialnegddaaGreat
namespace Go.Proofs.YtjgggialnegddaaGreat
open Go.RowKit
structure Ms where
 kind : Int
 st : Int
 se : Int
 att : Int
 inc : Int
 n : Int
 cnt : Int
 why : Int
 job : Jb
 la : Option Addr
 ll : Nat
 lc : Nat
 li : List Int
def MsV (m : Ms) : Array Value := #[.int .i64 m.kind, .int .u64 m.st, .int .u64 m.se, .int .u64 m.att, .int .u64 m.inc, .int .u64 m.n, .int .u64 m.cnt, .int .i64 m.why, .int .u64 m.job.seed, .slice m.job.ap m.job.lp m.job.cp, .int .i64 m.job.most, .slice m.la m.ll m.lc]
structure MsIn (w : World) (m : Ms) : Prop where
 job : JbIn w m.job
 list : Reads .i64 w m.la m.ll m.lc m.li
def isU (x : Int) : Prop := 0 ≤ x ∧ x ≤ 18446744073709551615
def isI (x : Int) : Prop := -9223372036854775808 ≤ x ∧ x ≤ 9223372036854775807
structure MsOk (m : Ms) : Prop where
 kind : isI m.kind
 st : isU m.st
 se : isU m.se
 att : isU m.att
 inc : isU m.inc
 n : isU m.n
 cnt : isU m.cnt
 why : isI m.why
 seed : isU m.job.seed
 most : isI m.job.most
structure Sg where
 c : Cf
 q : Int
 b : Int
 pg : Int
 sz : Int
 ch : Int
def SgV (s : Sg) : Array Value := #[.int .u64 s.c.seed, .int .i64 s.c.vocab, .int .i64 s.c.dim, .int .i64 s.c.layers, .int .i64 s.c.top, .int .i64 s.c.heat, .int .i64 s.q, .int .i64 s.b, .int .i64 s.pg, .int .i64 s.sz, .int .i64 s.ch]
structure SgOk (s : Sg) : Prop where
 q : isI s.q
 b : isI s.b
 pg : isI s.pg
 sz : isI s.sz
 ch : isI s.ch
theorem Tryz.cellsSg : Tryz.prog.cellsOf 26 = 11 := by kernel_rfl
theorem Tryz.cellsCf : Tryz.prog.cellsOf 24 = 6 := by kernel_rfl
theorem arrayN11 {α : Type} {cs : Array α} (h : cs.size = 11) : ∃ c0 c1 c2 c3 c4 c5 c6 c7 c8 c9 c10, cs = #[c0, c1, c2, c3, c4, c5, c6, c7, c8, c9, c10] := by
 obtain ⟨l⟩ := cs
 match l, h with
 | [c0, c1, c2, c3, c4, c5, c6, c7, c8, c9, c10], _ => exact ⟨c0, c1, c2, c3, c4, c5, c6, c7, c8, c9, c10, rfl⟩
theorem listN3 {α : Type} {cs : List α} (h : cs.length = 3) : ∃ c0 c1 c2, cs = [c0, c1, c2] := by
 match cs, h with
 | [c0, c1, c2], _ => exact ⟨c0, c1, c2, rfl⟩
structure Lst {α : Type} (w : World) (a : Option Addr) (len cap k : Nat) (xs : List α) (V : α → Array Value) (I : α → Prop) : Prop where
 size : xs.length = len
 room : len ≤ cap
 most : cap ≤ 9223372036854775807
 bare : a = none → len = 0 ∧ cap = 0
 cell : ∀ i (hi : i < xs.length), ∃ b off, a = some ⟨b, off, none⟩ ∧ ∀ j, j < k → w.cell? ⟨b, off + i * k + j, none⟩ = (V xs[i])[j]?
 inn : ∀ i (hi : i < xs.length), I xs[i]
section Args
open Go.ChangeShapes Go.WideShapes Go.ChangeAt
variable {H : Type} {enc : TypeId × Value → H} {W : World}
theorem eu64_at {fuel : Nat} {c : Value} {x : DataW H × List MemPlace} (h : DataW.trod enc Tryz.prog W 0 (fun _ => true) true fuel 22 [c] = some x) : ∃ n : Int, c = .int .u64 n ∧ isU n := by
 obtain ⟨n, hc, _, hw⟩ := DataW.trod_int Tryz.underlying22 h
 simp at hc
 have := bounds_u64 hw
 exact ⟨n, hc, by omega, by omega⟩
theorem eint_at {fuel : Nat} {c : Value} {x : DataW H × List MemPlace} (h : DataW.trod enc Tryz.prog W 0 (fun _ => true) true fuel 3 [c] = some x) : ∃ n : Int, c = .int .i64 n ∧ isI n := by
 obtain ⟨n, hc, _, hw⟩ := DataW.trod_int Tryz.underlying3 h
 simp at hc
 have := bounds_i64 hw
 exact ⟨n, hc, by omega, by omega⟩
theorem job_at {fuel : Nat} {c0 c1 c2 : Value} {x : DataW H × List MemPlace} (hf : DataW.trod enc Tryz.prog W 0 (fun _ => true) true fuel 43 [c0, c1, c2] = some x) :
  ∃ j : Jb, [c0, c1, c2] = (JbV j).toList ∧ JbIn W j ∧ isU j.seed ∧ isI j.most := by
 obtain ⟨xs, n, _, _, _, hl, hF⟩ := DataW.trod_struct Tryz.underlying43 hf
 have hl : xs.length = 3 := hl
 obtain ⟨y0, e0⟩ := at_some hl (i := 0) (by omega)
 obtain ⟨y1, e1⟩ := at_some hl (i := 1) (by omega)
 obtain ⟨y2, e2⟩ := at_some hl (i := 2) (by omega)
 have g0 : DataW.trod enc Tryz.prog W 0 (fun _ => true) true n 22 [c0] = some y0 := by
  have g := hF 0 _ rfl
  change DataW.trod enc Tryz.prog W 0 (fun _ => true) true n 22 (List.take (Tryz.prog.cellsOf 22) (List.drop 0 [c0, c1, c2])) = xs[0]? at g
  rw [Tryz.cellsU, e0] at g
  exact g
 have g1 : DataW.trod enc Tryz.prog W 0 (fun _ => true) true n 41 [c1] = some y1 := by
  have g := hF 1 _ rfl
  change DataW.trod enc Tryz.prog W 0 (fun _ => true) true n 41 (List.take (Tryz.prog.cellsOf 41) (List.drop 1 [c0, c1, c2])) = xs[1]? at g
  rw [Tryz.cellsNs, e1] at g
  exact g
 have g2 : DataW.trod enc Tryz.prog W 0 (fun _ => true) true n 3 [c2] = some y2 := by
  have g := hF 2 _ rfl
  change DataW.trod enc Tryz.prog W 0 (fun _ => true) true n 3 (List.take (Tryz.prog.cellsOf 3) (List.drop 2 [c0, c1, c2])) = xs[2]? at g
  rw [Tryz.cellsI, e2] at g
  exact g
 clear hF
 obtain ⟨sd, rfl, sdb⟩ := eu64_at g0
 obtain ⟨ap, lp, cp, ts, rfl, rp⟩ := nums_at g1
 obtain ⟨mo, rfl, mob⟩ := eint_at g2
 exact ⟨⟨sd, ap, lp, cp, ts, mo⟩, rfl, rp, sdb, mob⟩
theorem confE_at {fuel : Nat} {c0 c1 c2 c3 c4 c5 : Value} {x : DataW H × List MemPlace} (hf : DataW.trod enc Tryz.prog W 0 (fun _ => true) true fuel 24 [c0, c1, c2, c3, c4, c5] = some x) :
  ∃ c : Cf, [c0, c1, c2, c3, c4, c5] = (CfV c).toList := by
 obtain ⟨xs, n, _, _, _, hl, hF⟩ := DataW.trod_struct Tryz.underlying24 hf
 have hl : xs.length = 6 := hl
 obtain ⟨y0, e0⟩ := at_some hl (i := 0) (by omega)
 obtain ⟨y1, e1⟩ := at_some hl (i := 1) (by omega)
 obtain ⟨y2, e2⟩ := at_some hl (i := 2) (by omega)
 obtain ⟨y3, e3⟩ := at_some hl (i := 3) (by omega)
 obtain ⟨y4, e4⟩ := at_some hl (i := 4) (by omega)
 obtain ⟨y5, e5⟩ := at_some hl (i := 5) (by omega)
 have g0 : DataW.trod enc Tryz.prog W 0 (fun _ => true) true n 22 [c0] = some y0 := by
  have g := hF 0 _ rfl
  change DataW.trod enc Tryz.prog W 0 (fun _ => true) true n 22 (List.take (Tryz.prog.cellsOf 22) (List.drop 0 [c0, c1, c2, c3, c4, c5])) = xs[0]? at g
  rw [Tryz.cellsU, e0] at g
  exact g
 have g1 : DataW.trod enc Tryz.prog W 0 (fun _ => true) true n 3 [c1] = some y1 := by
  have g := hF 1 _ rfl
  change DataW.trod enc Tryz.prog W 0 (fun _ => true) true n 3 (List.take (Tryz.prog.cellsOf 3) (List.drop 1 [c0, c1, c2, c3, c4, c5])) = xs[1]? at g
  rw [Tryz.cellsI, e1] at g
  exact g
 have g2 : DataW.trod enc Tryz.prog W 0 (fun _ => true) true n 3 [c2] = some y2 := by
  have g := hF 2 _ rfl
  change DataW.trod enc Tryz.prog W 0 (fun _ => true) true n 3 (List.take (Tryz.prog.cellsOf 3) (List.drop 2 [c0, c1, c2, c3, c4, c5])) = xs[2]? at g
  rw [Tryz.cellsI, e2] at g
  exact g
 have g3 : DataW.trod enc Tryz.prog W 0 (fun _ => true) true n 3 [c3] = some y3 := by
  have g := hF 3 _ rfl
  change DataW.trod enc Tryz.prog W 0 (fun _ => true) true n 3 (List.take (Tryz.prog.cellsOf 3) (List.drop 3 [c0, c1, c2, c3, c4, c5])) = xs[3]? at g
  rw [Tryz.cellsI, e3] at g
  exact g
 have g4 : DataW.trod enc Tryz.prog W 0 (fun _ => true) true n 3 [c4] = some y4 := by
  have g := hF 4 _ rfl
  change DataW.trod enc Tryz.prog W 0 (fun _ => true) true n 3 (List.take (Tryz.prog.cellsOf 3) (List.drop 4 [c0, c1, c2, c3, c4, c5])) = xs[4]? at g
  rw [Tryz.cellsI, e4] at g
  exact g
 have g5 : DataW.trod enc Tryz.prog W 0 (fun _ => true) true n 3 [c5] = some y5 := by
  have g := hF 5 _ rfl
  change DataW.trod enc Tryz.prog W 0 (fun _ => true) true n 3 (List.take (Tryz.prog.cellsOf 3) (List.drop 5 [c0, c1, c2, c3, c4, c5])) = xs[5]? at g
  rw [Tryz.cellsI, e5] at g
  exact g
 clear hF
 obtain ⟨a0, rfl, a0b⟩ := eu64_at g0
 obtain ⟨a1, rfl, a1b⟩ := eint_at g1
 obtain ⟨a2, rfl, a2b⟩ := eint_at g2
 obtain ⟨a3, rfl, a3b⟩ := eint_at g3
 obtain ⟨a4, rfl, a4b⟩ := eint_at g4
 obtain ⟨a5, rfl, a5b⟩ := eint_at g5
 exact ⟨⟨a0, a1, a2, a3, a4, a5⟩, rfl⟩
theorem sg_at {fuel : Nat} {c0 c1 c2 c3 c4 c5 c6 c7 c8 c9 c10 : Value} {x : DataW H × List MemPlace} (hf : DataW.trod enc Tryz.prog W 0 (fun _ => true) true fuel 26 [c0, c1, c2, c3, c4, c5, c6, c7, c8, c9, c10] = some x) :
  ∃ s : Sg, [c0, c1, c2, c3, c4, c5, c6, c7, c8, c9, c10] = (SgV s).toList ∧ SgOk s := by
 obtain ⟨xs, n, _, _, _, hl, hF⟩ := DataW.trod_struct Tryz.underlying26 hf
 have hl : xs.length = 6 := hl
 obtain ⟨y0, e0⟩ := at_some hl (i := 0) (by omega)
 obtain ⟨y1, e1⟩ := at_some hl (i := 1) (by omega)
 obtain ⟨y2, e2⟩ := at_some hl (i := 2) (by omega)
 obtain ⟨y3, e3⟩ := at_some hl (i := 3) (by omega)
 obtain ⟨y4, e4⟩ := at_some hl (i := 4) (by omega)
 obtain ⟨y5, e5⟩ := at_some hl (i := 5) (by omega)
 have g0 : DataW.trod enc Tryz.prog W 0 (fun _ => true) true n 24 [c0, c1, c2, c3, c4, c5] = some y0 := by
  have g := hF 0 _ rfl
  change DataW.trod enc Tryz.prog W 0 (fun _ => true) true n 24 (List.take (Tryz.prog.cellsOf 24) (List.drop 0 [c0, c1, c2, c3, c4, c5, c6, c7, c8, c9, c10])) = xs[0]? at g
  rw [Tryz.cellsCf, e0] at g
  exact g
 have g1 : DataW.trod enc Tryz.prog W 0 (fun _ => true) true n 3 [c6] = some y1 := by
  have g := hF 1 _ rfl
  change DataW.trod enc Tryz.prog W 0 (fun _ => true) true n 3 (List.take (Tryz.prog.cellsOf 3) (List.drop 6 [c0, c1, c2, c3, c4, c5, c6, c7, c8, c9, c10])) = xs[1]? at g
  rw [Tryz.cellsI, e1] at g
  exact g
 have g2 : DataW.trod enc Tryz.prog W 0 (fun _ => true) true n 3 [c7] = some y2 := by
  have g := hF 2 _ rfl
  change DataW.trod enc Tryz.prog W 0 (fun _ => true) true n 3 (List.take (Tryz.prog.cellsOf 3) (List.drop 7 [c0, c1, c2, c3, c4, c5, c6, c7, c8, c9, c10])) = xs[2]? at g
  rw [Tryz.cellsI, e2] at g
  exact g
 have g3 : DataW.trod enc Tryz.prog W 0 (fun _ => true) true n 3 [c8] = some y3 := by
  have g := hF 3 _ rfl
  change DataW.trod enc Tryz.prog W 0 (fun _ => true) true n 3 (List.take (Tryz.prog.cellsOf 3) (List.drop 8 [c0, c1, c2, c3, c4, c5, c6, c7, c8, c9, c10])) = xs[3]? at g
  rw [Tryz.cellsI, e3] at g
  exact g
 have g4 : DataW.trod enc Tryz.prog W 0 (fun _ => true) true n 3 [c9] = some y4 := by
  have g := hF 4 _ rfl
  change DataW.trod enc Tryz.prog W 0 (fun _ => true) true n 3 (List.take (Tryz.prog.cellsOf 3) (List.drop 9 [c0, c1, c2, c3, c4, c5, c6, c7, c8, c9, c10])) = xs[4]? at g
  rw [Tryz.cellsI, e4] at g
  exact g
 have g5 : DataW.trod enc Tryz.prog W 0 (fun _ => true) true n 3 [c10] = some y5 := by
  have g := hF 5 _ rfl
  change DataW.trod enc Tryz.prog W 0 (fun _ => true) true n 3 (List.take (Tryz.prog.cellsOf 3) (List.drop 10 [c0, c1, c2, c3, c4, c5, c6, c7, c8, c9, c10])) = xs[5]? at g
  rw [Tryz.cellsI, e5] at g
  exact g
 clear hF
 obtain ⟨cf, ec⟩ := confE_at g0
 obtain ⟨q, rfl, qb⟩ := eint_at g1
 obtain ⟨b, rfl, bb⟩ := eint_at g2
 obtain ⟨pg, rfl, pgb⟩ := eint_at g3
 obtain ⟨sz, rfl, szb⟩ := eint_at g4
 obtain ⟨ch, rfl, chb⟩ := eint_at g5
 simp [CfV] at ec
 obtain ⟨rfl, rfl, rfl, rfl, rfl, rfl⟩ := ec
 exact ⟨⟨cf, q, b, pg, sz, ch⟩, rfl, ⟨qb, bb, pgb, szb, chb⟩⟩
theorem sg_open {b0 : Nat} {v : Value} {d : DataW H} {ps : List MemPlace} (hv : Value.okWide Tryz.prog W .any b0 26 v) (h : DataW.Trod enc Tryz.prog W 0 (fun _ => true) true 26 v d ps) :
  ∃ s : Sg, v = .agg (SgV s) ∧ SgOk s := by
 obtain ⟨cs, rfl, hsz⟩ := okWide_struct Tryz.underlying26 hv
 rw [Tryz.cellsSg] at hsz
 obtain ⟨c0, c1, c2, c3, c4, c5, c6, c7, c8, c9, c10, rfl⟩ := arrayN11 hsz
 obtain ⟨fuel, hf⟩ := h
 obtain ⟨s, em, ho⟩ := sg_at hf
 refine ⟨s, ?_, ho⟩
 congr 1
 exact Array.toList_inj.1 em
theorem jobs_open {b0 : Nat} {v : Value} {d : DataW H} {ps : List MemPlace} (hv : Value.okWide Tryz.prog W .any b0 62 v) (h : DataW.Trod enc Tryz.prog W 0 (fun _ => true) true 62 v d ps) :
  ∃ a len cap xs, v = .slice a len cap ∧ Lst W a len cap 3 xs JbV (fun j => JbIn W j ∧ isU j.seed ∧ isI j.most) := by
 obtain ⟨a, len, cap, rfl⟩ := okWide_slice Tryz.underlying62 hv
 obtain ⟨fuel, hf⟩ := h
 change DataW.trod enc Tryz.prog W 0 (fun _ => true) true fuel 62 [.slice a len cap] = _ at hf
 rcases Go.Deep.open_slice Tryz.underlying62 hf with ⟨hcs, _⟩ | ⟨ad, l, c, m, n, D, Pl, hcs, _, hl, hm, hmm, _, hx⟩
 ·simp at hcs
  obtain ⟨rfl, rfl, rfl⟩ := hcs
  exact ⟨none, 0, 0, [], rfl, rfl, Nat.le_refl _, by omega, fun _ => ⟨rfl, rfl⟩, fun i hi => absurd hi (by simp), fun i hi => absurd hi (by simp)⟩
 ·simp at hcs
  obtain ⟨rfl, rfl, rfl⟩ := hcs
  have hlm : len ≤ m := by rw [hmm]; simpa using hl
  rw [Tryz.cellsJb] at hx
  have each : ∀ i, i < len → ∃ x, (fun j => JbIn W j ∧ isU j.seed ∧ isI j.most) x ∧ ∀ j, j < 3 → W.cell? ((ad.add (i * 3)).add j) = (JbV x)[j]? := fun i hi => by
   obtain ⟨cs, h1, h2⟩ := hx i (by omega)
   obtain ⟨_, hlen, hcell⟩ := World.cells?_some h1
   obtain ⟨c0, c1, c2, rfl⟩ := listN3 hlen
   obtain ⟨x, em, hi2⟩ := job_at h2
   refine ⟨x, hi2, fun j hj => ?_⟩
   rw [hcell j hj, em]
   simp
  have hspot : 0 < len → ad.spot = none := fun h0 => by
   obtain ⟨x, _, hc⟩ := each 0 h0
   have := hc 0 (by omega)
   obtain ⟨b, off, spot⟩ := ad
   have h3 : ∃ u, (JbV x)[0]? = some u := ⟨_, rfl⟩
   obtain ⟨u, hu⟩ := h3
   rw [hu] at this
   simpa [Addr.add] using World.cell?_spot this
  have lt : ∀ i : Fin len, i.1 < len := fun i => i.2
  refine ⟨some ad, len, cap, List.ofFn fun i : Fin len => (each i.1 i.2).choose, rfl, by simp, hl, by unfold maxLen at hm; omega, (fun e => by cases e), fun i hi => ?_, fun i hi => ?_⟩
  ·have hi' : i < len := by simpa using hi
   have hs := hspot (by omega)
   obtain ⟨b, off, spot⟩ := ad
   simp only at hs
   subst hs
   refine ⟨b, off, rfl, fun j hj => ?_⟩
   have e : (⟨b, off + i * 3 + j, none⟩ : Addr) = ((⟨b, off, none⟩ : Addr).add (i * 3)).add j := by rw [Go.WideShapes.add_plain, Go.WideShapes.add_plain]
   rw [List.getElem_ofFn, e]
   exact (each i hi').choose_spec.2 j hj
  ·have hi' : i < len := by simpa using hi
   rw [List.getElem_ofFn]
   exact (each i hi').choose_spec.1
end Args
end Go.Proofs.YtjgggialnegddaaGreat
namespace Go.Proofs.YtjgggialnegddaaGreat
open Go.RowKit Go.Maps
theorem alaw : Keyed Tryz.prog 22 := int_keyed Tryz.underlying22
theorem azero (w : World) : (zeroValue 88).run Tryz.prog w = .ok (.pointer none) w := by kernel_rfl
theorem isU.wf {x : Int} (h : isU x) : (Lit.int .u64 x).wf = true := WalkArith.wf_u64 h
theorem akey {x : Int} (h : isU x) : keyOf Tryz.prog 22 (.int .u64 x) = some (.int .u64 x) := keyOf_int_mk Tryz.underlying22 h.wf
def AmAt (W : World) (B c : Nat) (f : Int → Option Nat) : Prop :=
 ∃ D : DataW Unit, W.ownsMap Tryz.prog 22 Rp B c D ∧ (∀ x, isU x → D.atKey (.int .u64 x) (.lit (.int .i64 (-1))) = .lit (.int .i64 (codeP (f x))) ∧ Maps.has D (.int .u64 x) = (f x).isSome) ∧ Maps.size D = c
theorem AmAt.new (w : World) : AmAt (w.alloc (.map #[] 0)) w.heap.size 0 (fun _ => none) := ⟨.map [], World.ownsMap_made _ _ _ _, fun v _ => ⟨rfl, rfl⟩, rfl⟩
theorem AmAt.lt {W : World} {B c : Nat} {f : Int → Option Nat} (h : AmAt W B c f) : B < W.heap.size := by obtain ⟨D, h1, _⟩ := h; exact h1.lt
theorem AmAt.blk {W : World} {B c : Nat} {f : Int → Option Nat} (h : AmAt W B c f) : ∃ es clock, W.heap[B]? = some (.map es clock) := by
 obtain ⟨D, ⟨es, clock, h1, h2⟩, h3⟩ := h
 exact ⟨es, clock, h1⟩
theorem AmAt.same {W W' : World} {B c : Nat} {f : Int → Option Nat} (h : AmAt W B c f) (hb : W'.heap[B]? = W.heap[B]?) : AmAt W' B c f := by
 obtain ⟨D, ⟨es, clock, h1, h2⟩, h3⟩ := h
 exact ⟨D, ⟨es, clock, hb.trans h1, h2⟩, h3⟩
theorem AmAt.below {W W' : World} {B c : Nat} {f : Int → Option Nat} (h : AmAt W B c f) (hb : Below W.heap.size W W') : AmAt W' B c f := h.same (hb.block _ h.lt)
theorem AmAt.ext {W : World} {B c : Nat} {f g : Int → Option Nat} (h : AmAt W B c f) (he : ∀ x, isU x → f x = g x) : AmAt W B c g := by
 obtain ⟨D, h1, h2, h3⟩ := h
 exact ⟨D, h1, fun x hx => by rw [← he x hx]; exact h2 x hx, h3⟩
theorem owns_tight {W : World} {B n : Nat} {D : DataW Unit} (h : W.ownsMap Tryz.prog 22 Rp B n D) : W.ownsMap Tryz.prog 22 Rp B (Maps.size D) D := by
 obtain ⟨es, clock, h1, h2, h3, rfl⟩ := h
 refine ⟨es, clock, h1, h2, ?_, rfl⟩
 rw [size_eq, length_read]
 exact Nat.le_refl _
theorem AmAt.look {W : World} {B c : Nat} {f : Int → Option Nat} (h : AmAt W B c f) {x : Int} (hx : isU x) : (Instr.lookup 71 (.map (some B)) (.int .u64 x) false).run Tryz.prog W = .ok (.pointer (ptrP (f x))) W := by
 obtain ⟨D, h1, h2, _⟩ := h
 obtain ⟨u, ps, hr, hu⟩ := h1.lookup alaw Tryz.underlying71 (azero W) (zd := .lit (.int .i64 (-1))) (zp := []) rfl (akey hx)
 rw [(h2 x hx).1] at hu
 rw [hr, Rp_inv hu]
theorem AmAt.store {W : World} {B c : Nat} {f : Int → Option Nat} (h : AmAt W B c f) (hn : c ≤ 100000) {x : Int} (hx : isU x) (b : Nat) :
  ∃ W', (Instr.mapUpdate 71 (.map (some B)) (.int .u64 x) (.pointer (some ⟨b, 0, none⟩))).run Tryz.prog W = .ok () W' ∧ (f x = none → ∀ g : Int → Option Nat, g x = some b → (∀ u, u ≠ x → g u = f u) → AmAt W' B (c + 1) g) ∧ W.mapTurned W' B := by
 obtain ⟨D, h1, h2, h3⟩ := h
 obtain ⟨W', hr, ho, hg⟩ := h1.store alaw Tryz.underlying71 (by unfold maxLen; omega) (akey hx) (Rp_mk b)
 refine ⟨W', hr, fun hf g g1 g2 => ⟨_, ho, fun u hu => ?_, ?_⟩, hg⟩
 ·by_cases e : u = x
  ·subst e
   rw [atKey_put_same h1.isMap (alaw.key (akey hx)), has_put_same h1.isMap (alaw.key (akey hx)), g1]
   exact ⟨rfl, rfl⟩
  ·have hne : Lit.int .u64 u ≠ Lit.int .u64 x := fun e2 => e (by cases e2; rfl)
   rw [atKey_put_other hne, has_put_other hne, g2 u e]
   exact h2 u hu
 ·rw [size_put (h1.tidy alaw), (h2 x hx).2, hf, h3]
  simp
theorem AmAt.drop {W : World} {B c : Nat} {f : Int → Option Nat} (h : AmAt W B c f) {x : Int} (hx : isU x) (ty : TypeId) :
  ∃ W', (Builtin.delete_ #[71, 22] ty #[.map (some B), .int .u64 x]).run Tryz.prog W = .ok (.tuple #[]) W' ∧ (∀ g : Int → Option Nat, g x = none → (∀ u, u ≠ x → g u = f u) → AmAt W' B (c - (if (f x).isSome then 1 else 0)) g) ∧ W.mapTurned W' B := by
 obtain ⟨D, h1, h2, h3⟩ := h
 obtain ⟨W', hr, ho, hg⟩ := h1.drop alaw Tryz.underlying71 (akey hx) ty
 have hs := size_del (k := Lit.int .u64 x) (h1.tidy alaw)
 rw [(h2 x hx).2, h3] at hs
 have hs2 : Maps.size (D.del (.int .u64 x)) = c - (if (f x).isSome then 1 else 0) := by omega
 refine ⟨W', hr, fun g g1 g2 => ⟨_, hs2 ▸ owns_tight ho, fun u hu => ?_, hs2⟩, hg⟩
 by_cases e : u = x
 ·subst e
  rw [atKey_del_same, has_del_same, g1]
  exact ⟨rfl, rfl⟩
 ·have hne : Lit.int .u64 u ≠ Lit.int .u64 x := fun e2 => e (by cases e2; rfl)
  rw [atKey_del_other hne, has_del_other hne, g2 u e]
  exact h2 u hu
theorem AmAt.len {W : World} {B c : Nat} {f : Int → Option Nat} (h : AmAt W B c f) (ty : TypeId) : (Builtin.len_ #[71] ty #[.map (some B)]).run Tryz.prog W = .ok (.int .i64 c) W := by
 obtain ⟨D, h1, h2, h3⟩ := h
 have := h1.len Tryz.underlying71 ty
 rw [h3] at this
 exact this
end Go.Proofs.YtjgggialnegddaaGreat
