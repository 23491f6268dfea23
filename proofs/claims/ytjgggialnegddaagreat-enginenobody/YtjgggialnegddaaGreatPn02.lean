/-
  The texts KvMap, KvMath, KvMath2, Derives, KvRef, PgMath, PgRef, PgFree, HiMath of this proof.
-/
import Derived.Test.YtjgggialnegddaaGreatPn01
import Derived.Maps.Own
import Derived.Maps.OwnOps
import Derived.Maps.Views
import Derived.Maps.OwnSet
import Derived.DeepKeys4
import Derived.MapViews
import Derived.Deep.QuietTactic
import Derived.BigQuiet
set_option linter.unusedVariables false
set_option maxRecDepth 1000000
namespace Go.Proofs.YtjgggialnegddaaGreat
open Go.RowKit Go.Maps
theorem Tryz.laidK : laidOutB Tryz.prog = true := by kernel_rfl
theorem Tryz.rowK : (121 : TypeId) < Tryz.prog.types.size := of_decide_eq_true (by kernel_rfl)
theorem Tryz.wideK : (match Tryz.prog.underlying 121 with | some (.array _ _) | some (.struct _) => true | _ => false) = true := by rw [Tryz.underlying121]
theorem klaw : Keyed Tryz.prog 121 := Keyed.of_law (deep_law_laid Tryz.laidK (m := 2) (by omega) Tryz.rowK (by kernel_rfl) Tryz.wideK)
def Rp : Value → Option (DataW Unit × List MemPlace)
 | .pointer none => some (.lit (.int .i64 (-1)), [])
 | .pointer (some a) => if a.off = 0 ∧ a.spot = none then some (.lit (.int .i64 (a.block : Int)), []) else none
 | _ => none
def codeP : Option Nat → Int
 | none => -1
 | some b => b
def ptrP : Option Nat → Option Addr
 | none => none
 | some b => some ⟨b, 0, none⟩
theorem Rp_inv {v : Value} {o : Option Nat} {ps : List MemPlace} (h : Rp v = some (.lit (.int .i64 (codeP o)), ps)) : v = .pointer (ptrP o) := by
 cases v with
 | pointer a =>
  cases a with
  | none =>
   have h1 : (-1 : Int) = codeP o := by simp [Rp] at h; exact h.1
   cases o with
   | none => rfl
   | some b => change (-1 : Int) = (b : Int) at h1; omega
  | some a =>
   obtain ⟨b, off, spot⟩ := a
   simp only [Rp] at h
   split at h
   ·rename_i hc
    obtain ⟨h1, h2⟩ := hc
    subst h1 h2
    have h3 : (b : Int) = codeP o := by simp at h; exact h.1
    cases o with
    | none => change (b : Int) = -1 at h3; omega
    | some b' =>
     have : b = b' := by change (b : Int) = (b' : Int) at h3; omega
     rw [this]
     rfl
   ·cases h
 | _ => simp [Rp] at h
theorem Rp_mk (b : Nat) : Rp (.pointer (some ⟨b, 0, none⟩)) = some (.lit (.int .i64 (codeP (some b))), []) := by simp [Rp, codeP]
theorem kzero (w : World) : (zeroValue 113).run Tryz.prog w = .ok (.pointer none) w := by kernel_rfl
noncomputable abbrev kOf (v : Value) : Option Lit := keyOf Tryz.prog 121 v
def MvAt (W : World) (B n : Nat) (f : Value → Option Nat) : Prop :=
 ∃ D : DataW Unit, W.ownsMap Tryz.prog 121 Rp B n D ∧ ∀ v l, kOf v = some l → D.atKey l (.lit (.int .i64 (-1))) = .lit (.int .i64 (codeP (f v))) ∧ Maps.has D l = (f v).isSome
theorem MvAt.new (w : World) : MvAt (w.alloc (.map #[] 0)) w.heap.size 0 (fun _ => none) := ⟨.map [], World.ownsMap_made _ _ _ _, fun v l _ => ⟨rfl, rfl⟩⟩
theorem MvAt.lt {W : World} {B n : Nat} {f : Value → Option Nat} (h : MvAt W B n f) : B < W.heap.size := by obtain ⟨D, h1, _⟩ := h; exact h1.lt
theorem MvAt.same {W W' : World} {B n : Nat} {f : Value → Option Nat} (h : MvAt W B n f) (hb : W'.heap[B]? = W.heap[B]?) : MvAt W' B n f := by
 obtain ⟨D, ⟨es, clock, h1, h2⟩, h3⟩ := h
 exact ⟨D, ⟨es, clock, hb.trans h1, h2⟩, h3⟩
theorem MvAt.below {W W' : World} {B n : Nat} {f : Value → Option Nat} (h : MvAt W B n f) (hb : Below W.heap.size W W') : MvAt W' B n f := h.same (hb.block _ h.lt)
theorem MvAt.fb {F : Nat → Prop} {W W' : World} {B n : Nat} {f : Value → Option Nat} (h : MvAt W B n f) (hb : Fb F W W') (hF : ¬ F B) : MvAt W' B n f := h.same (hb.block _ h.lt hF)
theorem MvAt.ext {W : World} {B n : Nat} {f g : Value → Option Nat} (h : MvAt W B n f) (he : ∀ v l, kOf v = some l → f v = g v) : MvAt W B n g := by
 obtain ⟨D, h1, h2⟩ := h
 exact ⟨D, h1, fun v l hv => by rw [← he v l hv]; exact h2 v l hv⟩
theorem MvAt.mono {W : World} {B n m : Nat} {f : Value → Option Nat} (h : MvAt W B n f) (hm : n ≤ m) : MvAt W B m f := by
 obtain ⟨D, h1, h2⟩ := h
 exact ⟨D, h1.mono hm, h2⟩
theorem MvAt.look {W : World} {B n : Nat} {f : Value → Option Nat} (h : MvAt W B n f) {v : Value} {l : Lit} (hv : kOf v = some l) : (Instr.lookup 122 (.map (some B)) v false).run Tryz.prog W = .ok (.pointer (ptrP (f v))) W := by
 obtain ⟨D, h1, h2⟩ := h
 obtain ⟨u, ps, hr, hu⟩ := h1.lookup klaw Tryz.underlying122 (kzero W) (zd := .lit (.int .i64 (-1))) (zp := []) rfl hv
 rw [(h2 v l hv).1] at hu
 rw [hr, Rp_inv hu]
theorem MvAt.drop {W : World} {B n : Nat} {f : Value → Option Nat} (h : MvAt W B n f) {v : Value} {l : Lit} (hv : kOf v = some l) (ty : TypeId) :
  ∃ W', (Builtin.delete_ #[122, 121] ty #[.map (some B), v]).run Tryz.prog W = .ok (.tuple #[]) W' ∧ (∀ g : Value → Option Nat, g v = none → (∀ u, u ≠ v → g u = f u) → MvAt W' B n g) ∧ W.mapTurned W' B := by
 obtain ⟨D, h1, h2⟩ := h
 obtain ⟨W', hr, ho, hg⟩ := h1.drop klaw Tryz.underlying122 hv ty
 refine ⟨W', hr, fun g g1 g2 => ⟨_, ho, fun u m hu => ?_⟩, hg⟩
 by_cases e : u = v
 ·subst e
  have e2 : m = l := by rw [hv] at hu; exact (Option.some.inj hu).symm
  subst e2
  rw [atKey_del_same, has_del_same, g1]
  exact ⟨rfl, rfl⟩
 ·have hne : m ≠ l := fun e2 => e (klaw.inj hu (by rw [e2]; exact hv))
  rw [atKey_del_other hne, has_del_other hne, g2 u e]
  exact h2 u m hu
theorem MvAt.len {W : World} {B n : Nat} {f : Value → Option Nat} (h : MvAt W B n f) (ty : TypeId) : ∃ s : Nat, (Builtin.len_ #[122] ty #[.map (some B)]).run Tryz.prog W = .ok (.int .i64 s) W ∧ s ≤ n ∧ (s = 0 ↔ ∀ v l, kOf v = some l → f v = none) := by
 obtain ⟨D, h1, h2⟩ := h
 refine ⟨Maps.size D, h1.len Tryz.underlying122 ty, h1.size_le, fun h0 v l hv => ?_, fun h0 => ?_⟩
 ·obtain ⟨es, rfl⟩ := h1.isMap
  rw [size_eq] at h0
  have : es = [] := List.eq_nil_of_length_eq_zero h0
  subst this
  have := (h2 v l hv).2
  rw [has_eq] at this
  simp at this
  cases hf : f v with
  | none => rfl
  | some b => rw [hf] at this; simp at this
 ·obtain ⟨es, clock, hb, F, hs, rfl⟩ := h1
  rw [size_eq, length_read]
  cases hes : es.toList with
  | nil => simpa using congrArg List.length hes
  | cons x xs =>
   exfalso
   obtain ⟨y, hy⟩ := F.reads x (by rw [hes]; exact List.mem_cons_self ..)
   have hk := WideElems.rd_key hy
   have := (h2 x.key y.1 hk).2
   rw [h0 x.key y.1 hk] at this
   have ht : Maps.has (DataW.map ((es.toList.map (WideElems.rg Tryz.prog 121 Rp)).foldr DataW.insert [])) y.1 = true := by
    rw [has_eq, List.any_eq_true]
    refine ⟨WideElems.rg Tryz.prog 121 Rp x, (WideShapes.sorted_perm _).symm.subset (List.mem_map.2 ⟨x, by rw [hes]; exact List.mem_cons_self .., rfl⟩), ?_⟩
    rw [WideElems.rg_of hy]
    exact WideAt.sameKey_self (klaw.key hk)
   rw [ht] at this
   simp at this
theorem MvAt.fbm {W W' : World} {B : Nat} (h : W.mapTurned W' B) : Fb (at1 B) W W' := by
 have := h.grown
 exact ⟨this.os, this.tape, this.output, this.size, fun k hk hn => this.block k hk fun e => hn (by cases e; rfl)⟩
def padL (xs : List Int) : List Int := xs ++ List.replicate (16 - xs.length) 0
theorem padL_len {xs : List Int} (h : xs.length ≤ 16) : (padL xs).length = 16 := by simp [padL]; omega
def keyV (xs : List Int) : Value := .agg ((padL xs).map (Value.int .i64)).toArray
theorem keyV_inj {xs ys : List Int} (h : xs.length = ys.length) (e : keyV xs = keyV ys) : xs = ys := by
 unfold keyV at e
 simp only [Value.agg.injEq] at e
 have e2 : (padL xs).map (Value.int .i64) = (padL ys).map (Value.int .i64) := by simpa using e
 have e3 : padL xs = padL ys := by
  exact (List.map_inj_right (fun a b hab => by cases hab; rfl)).1 e2
 unfold padL at e3
 exact (List.append_inj e3 h).1
theorem Tryz.cellsK : Tryz.prog.cellsOf 121 = 16 := by kernel_rfl
theorem mapM_some {α β : Type} (f : α → Option β) : ∀ l : List α, (∀ a ∈ l, ∃ y, f a = some y) → ∃ ys, l.mapM f = some ys
 | [], _ => ⟨[], rfl⟩
 | a :: l, h => by
  obtain ⟨y, hy⟩ := h a (List.mem_cons_self ..)
  obtain ⟨ys, hys⟩ := mapM_some f l fun b hb => h b (List.mem_cons_of_mem _ hb)
  exact ⟨y :: ys, by rw [List.mapM_cons, hy]; simp [hys]⟩
theorem Tryz.typeK : Tryz.prog.keyType 121 = true := by kernel_rfl
theorem Tryz.cellsIk : Tryz.prog.cellsOf 3 = 1 := by kernel_rfl
theorem keyV_key {xs : List Int} (h : xs.length ≤ 16) (hb : ∀ x ∈ xs, -9223372036854775808 ≤ x ∧ x ≤ 9223372036854775807) : ∃ l, kOf (keyV xs) = some l := by
 have hl := padL_len h
 have hbp : ∀ x ∈ padL xs, -9223372036854775808 ≤ x ∧ x ≤ 9223372036854775807 := by
  intro x hx
  unfold padL at hx
  rcases List.mem_append.1 hx with h1 | h1
  ·exact hb x h1
  ·rw [(List.mem_replicate.1 h1).2]; omega
 unfold kOf keyOf
 simp only [Tryz.underlying121, Tryz.typeK, Bool.true_and]
 have hf : (keyV xs).formed Tryz.prog 121 = true := by
  unfold keyV
  simp [Value.formed, Tryz.underlying121, Tryz.cellsK, hl]
 rw [if_pos hf]
 have hc : (keyV xs).cells.toList = (padL xs).map (Value.int .i64) := by unfold keyV; simp [Value.cells]
 rw [hc]
 obtain ⟨m, hm⟩ : ∃ m, Tryz.prog.types.size = m + 1 := Nat.exists_eq_succ_of_ne_zero (Nat.ne_of_gt (Nat.lt_of_le_of_lt (Nat.zero_le _) Tryz.rowK))
 rw [hm]
 unfold Program.keyLits
 simp only [Tryz.underlying121, List.length_map, hl, Tryz.cellsK, if_true]
 obtain ⟨ys, hys⟩ := mapM_some (fun i => Tryz.prog.keyLits (m + 1) 3 ((((padL xs).map (Value.int .i64)).drop (i * Tryz.prog.cellsOf 3)).take (Tryz.prog.cellsOf 3))) (List.range 16) fun i hi => by
  rw [List.mem_range] at hi
  rw [Tryz.cellsIk, Nat.mul_one]
  have e : (((padL xs).map (Value.int .i64)).drop i).take 1 = [.int .i64 ((padL xs)[i]'(by omega))] := by
   rw [List.take_one, List.head?_drop, List.getElem?_map, List.getElem?_eq_getElem (by omega)]
   rfl
  rw [e]
  unfold Program.keyLits
  simp only [Tryz.underlying3]
  rw [if_pos ⟨trivial, WalkArith.wf_i64 (hbp _ (List.getElem_mem _))⟩]
  exact ⟨_, rfl⟩
 rw [hys]
 exact ⟨_, rfl⟩
end Go.Proofs.YtjgggialnegddaaGreat
namespace Go.Proofs.YtjgggialnegddaaGreat
open Go.RowKit
abbrev En := List Int × Int
def en (es : List En) (i : Nat) : En := es[i]?.getD ([], 0)
def begB (a b : List Int) : Bool := a.isPrefixOf b
theorem begB_iff {a b : List Int} : begB a b = true ↔ a.length ≤ b.length ∧ ∀ i, i < a.length → a[i]?.getD 0 = b[i]?.getD 0 := by
 unfold begB
 rw [List.isPrefixOf_iff_prefix]
 constructor
 ·rintro ⟨c, rfl⟩
  refine ⟨by simp, fun i hi => ?_⟩
  rw [List.getElem?_append_left hi]
 ·rintro ⟨h1, h2⟩
  refine List.prefix_iff_eq_take.2 (List.ext_getElem (by simp; omega) fun i h3 h4 => ?_)
  have := h2 i h3
  rw [List.getElem?_eq_getElem h3, List.getElem?_eq_getElem (by omega)] at this
  simpa using this
def plcI (es : List En) (ts : List Int) : Nat := es.findIdx (fun e => e.1 == ts)
def plcZ (es : List En) (ts : List Int) : Int := if plcI es ts < es.length then (plcI es ts : Int) else -1
theorem plc_at {es : List En} {ts : List Int} {i : Nat} (hi : i < es.length) (h0 : (en es i).1 = ts) (hn : ∀ j, j < i → (en es j).1 ≠ ts) : plcZ es ts = i := by
 have e : plcI es ts = i := by
  unfold plcI
  rw [List.findIdx_eq hi]
  unfold en at h0
  rw [List.getElem?_eq_getElem hi] at h0
  refine ⟨by simpa using h0, fun j hj => ?_⟩
  have := hn j hj
  unfold en at this
  rw [List.getElem?_eq_getElem (by omega)] at this
  simpa using this
 unfold plcZ
 rw [if_pos (by omega), e]
def useK (tm : Int) (ts : List Int) (es : List En) (k : Nat) : List En := (es.take k).map (fun e => if begB e.1 ts then (e.1, tm) else e) ++ es.drop k
def bestK (ts : List Int) (es : List En) : Nat → Int
 | 0 => 0
 | k + 1 => if begB (en es k).1 ts then max (bestK ts es k) ((en es k).1.length : Int) else bestK ts es k
theorem useK_len (tm : Int) (ts : List Int) (es : List En) (k : Nat) : (useK tm ts es k).length = es.length := by simp [useK]; omega
theorem en_set {es : List En} {k : Nat} {x : En} (hk : k < es.length) (i : Nat) : en (es.set k x) i = if i = k then x else en es i := by
 unfold en
 rw [List.getElem?_set]
 by_cases e : k = i
 ·subst e; rw [if_pos rfl, if_pos hk, if_pos rfl]; rfl
 ·rw [if_neg e, if_neg (fun h => e h.symm)]
theorem useK_at (tm : Int) (ts : List Int) {es : List En} {k i : Nat} (hi : i < es.length) : en (useK tm ts es k) i = if i < k ∧ begB (en es i).1 ts = true then ((en es i).1, tm) else en es i := by
 unfold useK en
 by_cases h : i < k
 ·rw [List.getElem?_append_left (by simp; omega), List.getElem?_map, List.getElem?_take_of_lt h, List.getElem?_eq_getElem hi]
  simp only [Option.map_some, Option.getD_some, h, true_and]
 ·rw [List.getElem?_append_right (by simp; omega), if_neg (fun e => h e.1)]
  simp only [List.length_map, List.length_take, List.getElem?_drop]
  congr 1
  rw [Nat.min_eq_left (by omega)]
  congr 1
  omega
theorem en_ext {es fs : List En} (hl : es.length = fs.length) (h : ∀ i, i < es.length → en es i = en fs i) : es = fs := by
 apply List.ext_getElem hl
 intro i h1 h2
 have := h i h1
 unfold en at this
 rw [List.getElem?_eq_getElem h1, List.getElem?_eq_getElem h2] at this
 exact this
def leafB (es : List En) (k : Nat) : Bool := (List.range es.length).all fun i => i == k || !begB (en es k).1 (en es i).1
theorem leaf_yes {es : List En} {k : Nat} (h : ∀ i, i < es.length → i ≠ k → begB (en es k).1 (en es i).1 = false) : leafB es k = true := by
 unfold leafB
 rw [List.all_eq_true]
 intro i hi
 rw [List.mem_range] at hi
 by_cases e : i = k
 ·simp [e]
 ·simp [h i hi e]
theorem leaf_no {es : List En} {k i : Nat} (hi : i < es.length) (hk : i ≠ k) (h : begB (en es k).1 (en es i).1 = true) : leafB es k = false := by
 rw [Bool.eq_false_iff]
 intro hl
 unfold leafB at hl
 rw [List.all_eq_true] at hl
 have := hl i (List.mem_range.2 hi)
 simp [hk, h] at this
def goB (es : List En) (ts : List Int) (i : Nat) : Bool := leafB es i && !begB (en es i).1 ts
def oldK (es : List En) (ts : List Int) : Nat → Int
 | 0 => -1
 | k + 1 => if goB es ts k && (decide (oldK es ts k < 0) || decide ((en es k).2 < (en es (oldK es ts k).toNat).2)) then (k : Int) else oldK es ts k
theorem oldK_bd (es : List En) (ts : List Int) (k : Nat) : -1 ≤ oldK es ts k ∧ oldK es ts k < k := by
 induction k with
 | zero => simp [oldK]
 | succ k ih =>
  simp only [oldK]
  split
  ·omega
  ·omega
end Go.Proofs.YtjgggialnegddaaGreat
namespace Go.Proofs.YtjgggialnegddaaGreat
open Go.RowKit
def putE (pg tm : Int) (ts x : List Int) (es : List En) : Option (List En × Int) :=
 if plcI es x < es.length then some (es.set (plcI es x) ((en es (plcI es x)).1, tm), 0)
 else if pg ≤ (es.length : Int) then (if oldK es ts es.length < 0 then none else some (es.eraseIdx (oldK es ts es.length).toNat ++ [(x, tm)], 1))
 else some (es ++ [(x, tm)], 1)
def putK (pg tm : Int) (sz : Nat) (ts : List Int) (es : List En) : Nat → List En × Int × Bool
 | 0 => (es, 0, false)
 | j + 1 => if (putK pg tm sz ts es j).2.2 = true then putK pg tm sz ts es j else
  match putE pg tm ts (ts.take ((j + 1) * sz)) (putK pg tm sz ts es j).1 with
  | none => ((putK pg tm sz ts es j).1, (putK pg tm sz ts es j).2.1, true)
  | some p => (p.1, (putK pg tm sz ts es j).2.1 + p.2, false)
section
variable {pg tm : Int} {sz : Nat} {ts : List Int} {es : List En} {j : Nat}
theorem putK_use (hs : (putK pg tm sz ts es j).2.2 = false) {E : List En} (hE : (putK pg tm sz ts es j).1 = E) {p : Nat} (hp : plcZ E (ts.take ((j + 1) * sz)) = (p : Int)) :
  putK pg tm sz ts es (j + 1) = (E.set p ((en E p).1, tm), (putK pg tm sz ts es j).2.1, false) ∧ p < E.length := by
 have h1 : plcI E (ts.take ((j + 1) * sz)) < E.length ∧ plcI E (ts.take ((j + 1) * sz)) = p := by
  unfold plcZ at hp
  split at hp
  ·exact ⟨by assumption, by omega⟩
  ·omega
 obtain ⟨h1, rfl⟩ := h1
 refine ⟨?_, h1⟩
 rw [putK]
 simp only [hs, hE, Bool.false_eq_true, if_false, putE, if_pos h1, Int.add_zero]
theorem plcZ_neg {E : List En} {x : List Int} (h : plcZ E x < 0) : ¬ plcI E x < E.length := by
 unfold plcZ at h
 split at h
 ·omega
 ·assumption
theorem putK_add (hs : (putK pg tm sz ts es j).2.2 = false) {E : List En} (hE : (putK pg tm sz ts es j).1 = E) (hp : plcZ E (ts.take ((j + 1) * sz)) < 0) (hl : (E.length : Int) < pg) :
  putK pg tm sz ts es (j + 1) = (E ++ [(ts.take ((j + 1) * sz), tm)], (putK pg tm sz ts es j).2.1 + 1, false) := by
 rw [putK]
 simp only [hs, hE, Bool.false_eq_true, if_false, putE, if_neg (plcZ_neg hp), if_neg (show ¬ pg ≤ (E.length : Int) by omega)]
theorem putK_swap (hs : (putK pg tm sz ts es j).2.2 = false) {E : List En} (hE : (putK pg tm sz ts es j).1 = E) (hp : plcZ E (ts.take ((j + 1) * sz)) < 0) (hl : pg ≤ (E.length : Int)) {o : Nat} (ho : oldK E ts E.length = (o : Int)) :
  putK pg tm sz ts es (j + 1) = (E.eraseIdx o ++ [(ts.take ((j + 1) * sz), tm)], (putK pg tm sz ts es j).2.1 + 1, false) := by
 rw [putK]
 simp only [hs, hE, Bool.false_eq_true, if_false, putE, if_neg (plcZ_neg hp), if_pos hl, ho, if_neg (show ¬ ((o : Int) < 0) by omega), Int.toNat_natCast]
theorem putK_stop (hs : (putK pg tm sz ts es j).2.2 = false) {E : List En} (hE : (putK pg tm sz ts es j).1 = E) (hp : plcZ E (ts.take ((j + 1) * sz)) < 0) (hl : pg ≤ (E.length : Int)) (ho : oldK E ts E.length < 0) :
  putK pg tm sz ts es (j + 1) = (E, (putK pg tm sz ts es j).2.1, true) := by
 rw [putK]
 simp only [hs, hE, Bool.false_eq_true, if_false, putE, if_neg (plcZ_neg hp), if_pos hl, if_pos ho]
theorem putK_stay (h : (putK pg tm sz ts es j).2.2 = true) : ∀ d, putK pg tm sz ts es (j + d) = putK pg tm sz ts es j := by
 intro d
 induction d with
 | zero => rfl
 | succ d ih =>
  rw [← Nat.add_assoc, putK, ih, if_pos h]
theorem putK_len (h : (es.length : Int) ≤ pg) (j : Nat) : ((putK pg tm sz ts es j).1.length : Int) ≤ pg := by
 induction j with
 | zero => simpa [putK] using h
 | succ j ih =>
  have hb : ∀ p, putE pg tm ts (ts.take ((j + 1) * sz)) (putK pg tm sz ts es j).1 = some p → (p.1.length : Int) ≤ pg := by
   intro p hp
   generalize (putK pg tm sz ts es j).1 = E at *
   unfold putE at hp
   split at hp
   ·cases hp; simpa using ih
   ·split at hp
    ·split at hp
     ·cases hp
     ·cases hp
      have := oldK_bd E ts E.length
      simp only [List.length_append, List.length_singleton, List.length_eraseIdx]
      split <;> omega
    ·cases hp; simp; omega
  rw [putK]
  split
  ·exact ih
  ·split
   ·exact ih
   ·rename_i p hp
    exact hb p hp
end
end Go.Proofs.YtjgggialnegddaaGreat
namespace Go.Proofs.YtjgggialnegddaaGreat
open Go.RowKit
theorem derive_any (s : Int) (a : Option Addr) (len cap : Nat) (zs : List Int) (w : World) (hr : Reads .u64 w a len cap zs) (hlen : len ≤ 1000000) :
  Calls Tryz.prog 206 #[.int .u64 s, .slice a len cap] w fun e w' => e = .returned (.int .u64 (deriveZ s zs)) ∧ w' = w := by
 have HL : Hid (zs.length = len) := hr.size
 go_enter Tryz.func206, Tryz.ntmps206
 go_wp2_with fail
 go_loop [0, 9] (fun v i => ∃ (n : Int) (k : Nat), v = .int .u64 n ∧ i = .int .i64 k ∧ k ≤ len ∧ Hid (n = deriveZ s (zs.take k))) (fun _ i => len - (intOf i).toNat)
 case atStart => exact ⟨_, 0, rfl, rfl, by omega, by unfold Hid; simp [deriveZ]⟩
 case round =>
  obtain ⟨n, k, rfl, rfl, hk, HM⟩ := hrel
  by_cases hlt : k < len
  ·obtain ⟨b, off, rfl, hc⟩ := hr.cell k hlt
   have HS : Hid (atZ n (zs[k]?.getD 0) = deriveZ s (zs.take (k + 1))) := by
    unfold Hid
    rw [take_snoc (by have := HL.out; omega), derive_snoc, HM.out]
   clear hr
   generalize zs[k]?.getD 0 = c at *
   go_wp2_with fail
   refine (at_any _ _ _).mono ?_
   rintro e w' ⟨rfl, rfl⟩
   go_wp2_with fail
   go_round
   case rel => exact ⟨_, k + 1, rfl, by go_num, by omega, HS⟩
   case measure => simp [intOf]; omega
  ·have HE : Hid (n = deriveZ s zs) := by
    unfold Hid
    rw [HM.out, List.take_of_length_le (by have := HL.out; omega)]
   clear hr
   go_wp2
   go_ret
   exact ⟨ret_int HE.out, rfl⟩
end Go.Proofs.YtjgggialnegddaaGreat
namespace Go.Proofs.YtjgggialnegddaaGreat
open Go.RowKit
variable {P : Nat → Prop}
def BlN (w : World) (a : Option Addr) : Prop := ∀ p, a = some p → ∃ cur fz, w.heap[p.block]? = some (.cells cur 3 fz)
theorem Reads.blk {k : IntKind} {W W' : World} {a : Option Addr} {l c : Nat} {zs : List Int} (hr : Reads k W a l c zs) (hb : ∀ p, a = some p → W'.heap[p.block]? = W.heap[p.block]?) : Reads k W' a l c zs :=
 ⟨hr.size, hr.room, hr.most, hr.bare, fun i hi => by
  obtain ⟨b, off, ha, hc⟩ := hr.cell i hi
  exact ⟨b, off, ha, (World.cell?_of_block (a := ⟨b, off + i, none⟩) (hb ⟨b, off, none⟩ ha)).trans hc⟩⟩
end Go.Proofs.YtjgggialnegddaaGreat
namespace Go.Proofs.YtjgggialnegddaaGreat
open Go.RowKit
def heldZ (hs : List Int) (n : Int) : Int := if 0 ≤ n ∧ n < hs.length then hs[n.toNat]?.getD 0 else 0
def takeI (hs : List Int) : Nat := hs.findIdx (· == 0)
def takeN (hs : List Int) : Int := if takeI hs < hs.length then (takeI hs : Int) else 0
def takeE (hs : List Int) : Int := if takeI hs < hs.length then 0 else 9
def takeH (hs : List Int) : List Int := if takeI hs < hs.length then hs.set (takeI hs) 1 else hs
def dropE (hs : List Int) (n : Int) : Int := if heldZ hs n = 0 then 1 else 0
def dropH (hs : List Int) (n : Int) : List Int := if heldZ hs n = 0 then hs else hs.set n.toNat (heldZ hs n - 1)
def dropB (hs : List Int) (n : Int) : Bool := decide (heldZ hs n = 1)
def usedK (hs : List Int) : Nat → List Int
 | 0 => []
 | k + 1 => if 0 < hs[k]?.getD 0 then usedK hs k ++ [(k : Int)] else usedK hs k
def usedL (hs : List Int) : List Int := usedK hs hs.length
def OkP (hs : List Int) : Prop := 1 ≤ hs.length ∧ hs.length ≤ 256 ∧ ∀ i, i < hs.length → 0 ≤ hs[i]?.getD 0 ∧ hs[i]?.getD 0 ≤ 2147483647
theorem usedK_len (hs : List Int) (k : Nat) : (usedK hs k).length ≤ k := by
 induction k with
 | zero => simp [usedK]
 | succ k ih =>
  simp only [usedK]
  split
  ·simp; exact ih
  ·omega
theorem takeI_le (hs : List Int) : takeI hs ≤ hs.length := List.findIdx_le_length
theorem takeI_at {hs : List Int} {i : Nat} (hi : i < hs.length) (h0 : hs[i]?.getD 0 = 0) (hn : ∀ j, j < i → hs[j]?.getD 0 ≠ 0) : takeI hs = i := by
 unfold takeI
 rw [List.findIdx_eq hi]
 rw [List.getElem?_eq_getElem hi] at h0
 refine ⟨by simpa using h0, fun j hj => ?_⟩
 have := hn j hj
 rw [List.getElem?_eq_getElem (by omega)] at this
 simpa using this
theorem takeI_free {hs : List Int} (h : takeI hs < hs.length) : hs[takeI hs]?.getD 0 = 0 := by
 rw [List.getElem?_eq_getElem h]
 exact eq_of_beq (List.findIdx_getElem (p := fun x : Int => x == 0) (xs := hs) (w := h))
theorem takeH_len (hs : List Int) : (takeH hs).length = hs.length := by unfold takeH; split <;> simp
theorem dropH_len (hs : List Int) (n : Int) : (dropH hs n).length = hs.length := by unfold dropH; split <;> simp
theorem heldZ_in {hs : List Int} {n : Int} (h : heldZ hs n ≠ 0) : 0 ≤ n ∧ n < hs.length := by
 unfold heldZ at h
 split at h
 ·assumption
 ·exact absurd rfl h
theorem heldZ_at {hs : List Int} {n : Int} (h0 : 0 ≤ n) (h1 : n < hs.length) : heldZ hs n = hs[n.toNat]?.getD 0 := by unfold heldZ; rw [if_pos ⟨h0, h1⟩]
theorem heldZ_out {hs : List Int} {n : Int} (h : n < 0 ∨ (hs.length : Int) ≤ n) : heldZ hs n = 0 := by unfold heldZ; rw [if_neg (by omega)]
theorem OkP.held {hs : List Int} (h : OkP hs) (n : Int) : 0 ≤ heldZ hs n ∧ heldZ hs n ≤ 2147483647 := by
 by_cases hn : 0 ≤ n ∧ n < hs.length
 ·rw [heldZ_at hn.1 hn.2]; exact h.2.2 _ (by omega)
 ·rw [heldZ_out (by omega)]; omega
theorem set_bd {hs : List Int} {k : Nat} {v lo hi : Int} (h : ∀ i, i < hs.length → lo ≤ hs[i]?.getD 0 ∧ hs[i]?.getD 0 ≤ hi) (h0 : lo ≤ v) (h1 : v ≤ hi) : ∀ i, i < (hs.set k v).length → lo ≤ (hs.set k v)[i]?.getD 0 ∧ (hs.set k v)[i]?.getD 0 ≤ hi := by
 intro i hi'
 rw [List.length_set] at hi'
 rw [List.getElem?_set]
 by_cases e : k = i
 ·subst e
  rw [if_pos rfl, if_pos hi']
  exact ⟨h0, h1⟩
 ·rw [if_neg e]
  exact h i hi'
theorem OkP.take {hs : List Int} (h : OkP hs) : OkP (takeH hs) := by
 refine ⟨by rw [takeH_len]; exact h.1, by rw [takeH_len]; exact h.2.1, ?_⟩
 unfold takeH
 split
 ·exact set_bd h.2.2 (by omega) (by omega)
 ·exact h.2.2
theorem OkP.drop {hs : List Int} (h : OkP hs) (n : Int) : OkP (dropH hs n) := by
 refine ⟨by rw [dropH_len]; exact h.1, by rw [dropH_len]; exact h.2.1, ?_⟩
 have := h.held n
 unfold dropH
 split
 ·exact h.2.2
 ·exact set_bd h.2.2 (by omega) (by omega)
theorem okp_new {n : Nat} (h0 : 1 ≤ n) (h1 : n ≤ 256) : OkP (List.replicate n 0) := by
 refine ⟨by simpa using h0, by simpa using h1, fun i hi => ?_⟩
 rw [List.length_replicate] at hi
 rw [List.getElem?_replicate, if_pos hi]
 simp
end Go.Proofs.YtjgggialnegddaaGreat
namespace Go.Proofs.YtjgggialnegddaaGreat
open Go.RowKit
theorem make_intsI (w : World) (m : Nat) (hm : m ≤ 1001) : (Instr.makeSlice 41 (.int .i64 (m : Int)) (.int .i64 (m : Int))).run Tryz.prog w = .ok (.slice (some ⟨w.heap.size, 0, none⟩) m m) (w.alloc (.cells (madeCells #[.int .i64 0] m) 3)) := by
 obtain ⟨i0, hi, hz0, hz1, hz2⟩ := info_parts Tryz.info3
 have := run_make (P := Tryz.prog) w 41 3 i0 (.int .i64 0) Tryz.underlying41 hi hz0 .i64 .i64 (m : Int) (m : Int) (by omega) (Int.le_refl _) (by rw [hz2]; omega) (by omega)
 rw [this, hz1, Int.toNat_natCast, Nat.mul_one]
 rfl
end Go.Proofs.YtjgggialnegddaaGreat
namespace Go.Proofs.YtjgggialnegddaaGreat
open Go.RowKit
structure FreeOf (hs fs : List Int) : Prop where
 nd : fs.Nodup
 mem : ∀ x, x ∈ fs ↔ ∃ i : Nat, i < hs.length ∧ x = i ∧ hs[i]?.getD 0 = 0
 cnt : fs.length + (usedL hs).length = hs.length
theorem used_set {hs : List Int} {i : Nat} {v : Int} (hi : i < hs.length) : ∀ k, k ≤ hs.length → (usedK (hs.set i v) k).length + (if i < k ∧ 0 < hs[i]?.getD 0 then 1 else 0) = (usedK hs k).length + (if i < k ∧ 0 < v then 1 else 0) := by
 intro k
 induction k with
 | zero => intro _; simp [usedK]
 | succ k ih =>
  intro hk
  have h := ih (by omega)
  simp only [usedK]
  by_cases e : k = i
  ·subst e
   have e1 : (hs.set k v)[k]?.getD 0 = v := by rw [List.getElem?_set, if_pos rfl, if_pos hi]; rfl
   rw [e1]
   simp only [Nat.lt_irrefl, false_and, if_false, Nat.add_zero] at h
   have a1 : k < k + 1 := by omega
   simp only [a1, true_and]
   split <;> split <;> simp <;> omega
  ·have e1 : (hs.set i v)[k]?.getD 0 = hs[k]?.getD 0 := by rw [List.getElem?_set, if_neg (fun h => e h.symm)]
   rw [e1]
   have a1 : (i < k + 1) = (i < k) := propext ⟨fun h => by omega, fun h => by omega⟩
   simp only [a1]
   by_cases q : 0 < hs[k]?.getD 0
   ·rw [if_pos q, if_pos q]; simp only [List.length_append, List.length_singleton]; omega
   ·rw [if_neg q, if_neg q]; exact h
theorem used_set1 {hs : List Int} {i : Nat} {v : Int} (hi : i < hs.length) (h0 : hs[i]?.getD 0 = 0) (hv : 0 < v) : (usedL (hs.set i v)).length = (usedL hs).length + 1 := by
 have := used_set (v := v) hi hs.length (Nat.le_refl _)
 rw [if_neg (by omega), if_pos ⟨hi, hv⟩] at this
 unfold usedL
 rw [List.length_set]
 omega
theorem used_set0 {hs : List Int} {i : Nat} (hi : i < hs.length) (h0 : 0 < hs[i]?.getD 0) : (usedL (hs.set i 0)).length + 1 = (usedL hs).length := by
 have := used_set (v := 0) hi hs.length (Nat.le_refl _)
 rw [if_pos ⟨hi, h0⟩, if_neg (by omega)] at this
 unfold usedL
 rw [List.length_set]
 omega
theorem used_setn {hs : List Int} {i : Nat} {v : Int} (hi : i < hs.length) (h0 : 0 < hs[i]?.getD 0) (hv : 0 < v) : (usedL (hs.set i v)).length = (usedL hs).length := by
 have := used_set (v := v) hi hs.length (Nat.le_refl _)
 rw [if_pos ⟨hi, h0⟩, if_pos ⟨hi, hv⟩] at this
 unfold usedL
 rw [List.length_set]
 omega
theorem set_at (hs : List Int) {i : Nat} (v : Int) (hi : i < hs.length) (j : Nat) : (hs.set i v)[j]?.getD 0 = if j = i then v else hs[j]?.getD 0 := by
 rw [List.getElem?_set]
 by_cases e : i = j
 ·subst e; rw [if_pos rfl, if_pos hi, if_pos rfl]; rfl
 ·rw [if_neg e, if_neg (fun h => e h.symm)]
theorem FreeOf.pop {hs fs ns : List Int} {x : Int} (h : FreeOf hs fs) (hp : (x :: ns).Perm fs) (hm : ∀ y ∈ fs, x ≤ y) : takeI hs < hs.length ∧ x = (takeI hs : Int) ∧ FreeOf (takeH hs) ns := by
 have hx : x ∈ fs := hp.subset (List.mem_cons_self ..)
 obtain ⟨i, hi, rfl, h0⟩ := (h.mem x).1 hx
 have ht : takeI hs = i := takeI_at hi h0 fun j hj e => by
  have := hm j ((h.mem j).2 ⟨j, by omega, rfl, e⟩)
  omega
 have hlt : takeI hs < hs.length := by omega
 have hH : takeH hs = hs.set i 1 := by unfold takeH; rw [if_pos hlt, ht]
 have hnd := hp.nodup_iff.2 h.nd
 rw [List.nodup_cons] at hnd
 refine ⟨hlt, by rw [ht], hnd.2, fun y => ?_, ?_⟩
 ·rw [hH, List.length_set]
  constructor
  ·intro hy
   obtain ⟨j, hj, rfl, hj0⟩ := (h.mem y).1 (hp.subset (List.mem_cons_of_mem _ hy))
   refine ⟨j, hj, rfl, ?_⟩
   rw [set_at _ _ hi, if_neg, hj0]
   rintro rfl
   exact hnd.1 hy
  ·rintro ⟨j, hj, rfl, hj0⟩
   rw [set_at _ _ hi] at hj0
   by_cases e : j = i
   ·rw [if_pos e] at hj0; omega
   ·rw [if_neg e] at hj0
    have : (j : Int) ∈ (i : Int) :: ns := hp.symm.subset ((h.mem _).2 ⟨j, hj, rfl, hj0⟩)
    rcases List.mem_cons.1 this with h1 | h1
    ·omega
    ·exact h1
 ·have hl := hp.length_eq
  simp only [List.length_cons] at hl
  rw [hH, used_set1 hi h0 (by omega), List.length_set]
  have := h.cnt
  omega
theorem FreeOf.push {hs fs ns : List Int} {i : Nat} (h : FreeOf hs fs) (hi : i < hs.length) (h0 : 0 < hs[i]?.getD 0) (hp : ns.Perm (fs ++ [(i : Int)])) : FreeOf (hs.set i 0) ns := by
 have hni : (i : Int) ∉ fs := fun hx => by
  obtain ⟨j, hj, e, hj0⟩ := (h.mem _).1 hx
  have : j = i := by omega
  subst this
  omega
 refine ⟨hp.nodup_iff.2 ?_, fun y => ?_, ?_⟩
 ·rw [List.nodup_append]
  refine ⟨h.nd, by simp, fun a ha b hb => ?_⟩
  simp at hb
  subst hb
  rintro rfl
  exact hni ha
 ·rw [hp.mem_iff, List.mem_append, List.mem_singleton, List.length_set]
  constructor
  ·rintro (hy | rfl)
   ·obtain ⟨j, hj, rfl, hj0⟩ := (h.mem y).1 hy
    refine ⟨j, hj, rfl, ?_⟩
    rw [set_at _ _ hi]
    by_cases e : j = i
    ·rw [if_pos e]
    ·rw [if_neg e]; exact hj0
   ·exact ⟨i, hi, rfl, by rw [set_at _ _ hi, if_pos rfl]⟩
  ·rintro ⟨j, hj, rfl, hj0⟩
   rw [set_at _ _ hi] at hj0
   by_cases e : j = i
   ·right; rw [e]
   ·rw [if_neg e] at hj0
    left
    exact (h.mem _).2 ⟨j, hj, rfl, hj0⟩
 ·have hl := hp.length_eq
  simp only [List.length_append, List.length_singleton] at hl
  have h2 := used_set0 hi h0
  rw [List.length_set]
  have := h.cnt
  omega
theorem FreeOf.stay {hs fs : List Int} {i : Nat} {v : Int} (h : FreeOf hs fs) (hi : i < hs.length) (h0 : 0 < hs[i]?.getD 0) (hv : 0 < v) : FreeOf (hs.set i v) fs := by
 refine ⟨h.nd, fun y => ?_, by rw [used_setn hi h0 hv, List.length_set]; exact h.cnt⟩
 rw [h.mem, List.length_set]
 constructor
 ·rintro ⟨j, hj, rfl, hj0⟩
  refine ⟨j, hj, rfl, ?_⟩
  rw [set_at _ _ hi, if_neg, hj0]
  rintro rfl
  omega
 ·rintro ⟨j, hj, rfl, hj0⟩
  rw [set_at _ _ hi] at hj0
  by_cases e : j = i
  ·rw [if_pos e] at hj0; omega
  ·rw [if_neg e] at hj0; exact ⟨j, hj, rfl, hj0⟩
theorem FreeOf.none {hs : List Int} (h : FreeOf hs []) : ¬ takeI hs < hs.length := fun ht => by
 have := (h.mem (takeI hs : Int)).2 ⟨_, ht, rfl, takeI_free ht⟩
 simp at this
def upto (n : Nat) : List Int := (List.range n).map fun i : Nat => (i : Int)
theorem upto_len (n : Nat) : (upto n).length = n := by simp [upto]
theorem upto_at {n i : Nat} (h : i < n) : (upto n)[i]?.getD 0 = (i : Int) := by simp [upto, h]
theorem used_none (n : Nat) : ∀ k, k ≤ n → usedK (List.replicate n 0) k = [] := by
 intro k
 induction k with
 | zero => intro _; rfl
 | succ k ih =>
  intro hk
  simp only [usedK]
  have e : (List.replicate n (0 : Int))[k]?.getD 0 = 0 := by rw [List.getElem?_replicate, if_pos (by omega)]; rfl
  rw [ih (by omega), e, if_neg (by omega)]
theorem free_new (n : Nat) : FreeOf (List.replicate n 0) (upto n) := by
 refine ⟨?_, fun x => ?_, ?_⟩
 ·unfold upto
  exact List.Pairwise.map _ (fun a b (h : a ≠ b) e => h (Int.ofNat.inj e)) List.nodup_range
 ·unfold upto
  rw [List.mem_map, List.length_replicate]
  constructor
  ·rintro ⟨i, hi, rfl⟩
   rw [List.mem_range] at hi
   exact ⟨i, hi, rfl, by rw [List.getElem?_replicate, if_pos hi]; rfl⟩
  ·rintro ⟨i, hi, rfl, _⟩
   exact ⟨i, List.mem_range.2 hi, rfl⟩
 ·unfold usedL
  rw [upto_len, List.length_replicate, used_none n n (Nat.le_refl _)]
  rfl
end Go.Proofs.YtjgggialnegddaaGreat
namespace Go.Proofs.YtjgggialnegddaaGreat
open Go.RowKit
def ltI (a b : Int) : Prop := a < b
def leI (a b : Int) : Prop := ¬ ltI b a
theorem leI_refl (a : Int) : leI a a := by unfold leI ltI; omega
theorem leI_trans {a b c : Int} (h : leI a b) (k : leI b c) : leI a c := by unfold leI ltI at *; omega
theorem leI_of_lt {a b : Int} (h : ltI a b) : leI a b := by unfold leI; unfold ltI at *; omega
def gi (ms : List Int) (i : Nat) : Int := ms[i]?.getD 0
theorem gi_of {ms : List Int} {i : Nat} (h : i < ms.length) : gi ms i = ms[i] := by simp [gi, h]
def swi (ms : List Int) (i j : Nat) : List Int := (ms.set i (gi ms j)).set j (gi ms i)
theorem swi_len (ms : List Int) (i j : Nat) : (swi ms i j).length = ms.length := by simp [swi]
theorem gi_swi {ms : List Int} {i j : Nat} (hi : i < ms.length) (hj : j < ms.length) (k : Nat) : gi (swi ms i j) k = if k = j then gi ms i else if k = i then gi ms j else gi ms k := by
 unfold gi swi
 rw [List.getElem?_set, List.getElem?_set]
 by_cases h1 : k = j
 ·subst h1; simp [hj]; rfl
 ·rw [if_neg (fun e => h1 e.symm), if_neg h1]
  by_cases h2 : k = i
  ·subst h2; simp [hi]; rfl
  ·rw [if_neg (fun e => h2 e.symm), if_neg h2]
theorem swi_perm {ms : List Int} {i j : Nat} (hi : i < ms.length) (hj : j < ms.length) : (swi ms i j).Perm ms := by
 unfold swi
 rw [gi_of hi, gi_of hj]
 exact List.set_set_perm hi hj
def HeapI (ms : List Int) (n : Nat) : Prop := ∀ i, 0 < i → i < n → leI (gi ms ((i - 1) / 2)) (gi ms i)
def UpI (ms : List Int) (n j : Nat) : Prop := (∀ i, 0 < i → i < n → i ≠ j → leI (gi ms ((i - 1) / 2)) (gi ms i)) ∧ (0 < j → ∀ i, 0 < i → i < n → (i - 1) / 2 = j → leI (gi ms ((j - 1) / 2)) (gi ms i))
theorem UpI.done {ms : List Int} {n j : Nat} (h : UpI ms n j) (hj : 0 < j → ¬ ltI (gi ms j) (gi ms ((j - 1) / 2))) : HeapI ms n := by
 intro i h0 hn
 by_cases e : i = j
 ·subst e; exact hj h0
 ·exact h.1 i h0 hn e
theorem UpI.step {ms : List Int} {n j : Nat} (h : UpI ms n j) (h0 : 0 < j) (hj : j < n) (hn : n ≤ ms.length) (hl : ltI (gi ms j) (gi ms ((j - 1) / 2))) : UpI (swi ms ((j - 1) / 2) j) n ((j - 1) / 2) := by
 obtain ⟨p, hp⟩ : ∃ p, (j - 1) / 2 = p := ⟨_, rfl⟩
 rw [hp] at hl ⊢
 have hG := gi_swi (ms := ms) (i := p) (j := j) (by omega) (by omega)
 have hlj := leI_of_lt hl
 constructor
 ·intro i i0 hi hip
  rw [hG, hG]
  by_cases e1 : i = j
  ·subst e1
   rw [hp, if_pos rfl, if_neg (by omega), if_pos rfl]
   exact hlj
  ·rw [if_neg e1, if_neg hip]
   have hx := h.1 i i0 hi e1
   by_cases e2 : (i - 1) / 2 = j
   ·rw [if_pos e2]
    have := h.2 h0 i i0 hi e2
    rwa [hp] at this
   ·rw [if_neg e2]
    by_cases e3 : (i - 1) / 2 = p
    ·rw [if_pos e3]
     rw [e3] at hx
     exact leI_trans hlj hx
    ·rw [if_neg e3]; exact hx
 ·intro p0 i i0 hi hip
  have hpp := h.1 p p0 (by omega) (by omega)
  rw [hG, hG, if_neg (by omega), if_neg (by omega)]
  by_cases e1 : i = j
  ·rw [if_pos e1]; exact hpp
  ·rw [if_neg e1, if_neg (by omega)]
   have hx := h.1 i i0 hi e1
   rw [hip] at hx
   exact leI_trans hpp hx
def DownI (ms : List Int) (n c : Nat) : Prop := (∀ i, 0 < i → i < n → (i - 1) / 2 ≠ c → leI (gi ms ((i - 1) / 2)) (gi ms i)) ∧ (0 < c → ∀ i, 0 < i → i < n → (i - 1) / 2 = c → leI (gi ms ((c - 1) / 2)) (gi ms i))
theorem DownI.done {ms : List Int} {n c : Nat} (h : DownI ms n c) (hc : ∀ i, 0 < i → i < n → (i - 1) / 2 = c → leI (gi ms c) (gi ms i)) : HeapI ms n := by
 intro i h0 hn
 by_cases e : (i - 1) / 2 = c
 ·rw [e]; exact hc i h0 hn e
 ·exact h.1 i h0 hn e
theorem DownI.step {ms : List Int} {n c j : Nat} (h : DownI ms n c) (h0 : 0 < j) (hj : j < n) (hn : n ≤ ms.length) (hjc : (j - 1) / 2 = c) (hm : ∀ i, 0 < i → i < n → (i - 1) / 2 = c → leI (gi ms j) (gi ms i)) (hl : ltI (gi ms j) (gi ms c)) : DownI (swi ms c j) n j := by
 have hG := gi_swi (ms := ms) (i := c) (j := j) (by omega) (by omega)
 have hlj := leI_of_lt hl
 constructor
 ·intro i i0 hi hip
  rw [hG, hG, if_neg hip]
  by_cases e1 : i = j
  ·subst e1
   rw [if_pos hjc, if_pos rfl]
   exact hlj
  ·rw [if_neg e1]
   by_cases e2 : i = c
   ·subst e2
    rw [if_neg (by omega), if_pos rfl]
    exact h.2 i0 j h0 hj hjc
   ·rw [if_neg e2]
    by_cases e3 : (i - 1) / 2 = c
    ·rw [if_pos e3]; exact hm i i0 hi e3
    ·rw [if_neg e3]; exact h.1 i i0 hi e3
 ·intro _ i i0 hi hij
  rw [hG, hG, hjc, if_neg (by omega), if_pos rfl, if_neg (by omega), if_neg (by omega)]
  have := h.1 i i0 hi (by omega)
  rwa [hij] at this
theorem HeapI.least {ms : List Int} {n : Nat} (h : HeapI ms n) : ∀ i, i < n → leI (gi ms 0) (gi ms i) := by
 intro i
 induction i using Nat.strongRecOn with
 | ind i ih =>
  intro hi
  by_cases h0 : i = 0
  ·subst h0; exact leI_refl _
  ·exact leI_trans (ih ((i - 1) / 2) (by omega) (by omega)) (h i (by omega) hi)
theorem HeapI.cut {ms : List Int} {n : Nat} (h : HeapI ms n) (hn : n + 1 ≤ ms.length) (h' : HeapI ms (n + 1)) : DownI (swi ms 0 n) n 0 := by
 have hG := gi_swi (ms := ms) (i := 0) (j := n) (by omega) (by omega)
 refine ⟨fun i i0 hi hp => ?_, fun h => absurd h (by omega)⟩
 rw [hG, hG, if_neg (by omega), if_neg hp, if_neg (by omega), if_neg (by omega)]
 exact h' i i0 (by omega)
theorem gi_app {ms : List Int} {x : Int} {i : Nat} (h : i < ms.length) : gi (ms ++ [x]) i = gi ms i := by simp [gi, List.getElem?_append_left h]
theorem HeapI.push {ms : List Int} (h : HeapI ms ms.length) (x : Int) : UpI (ms ++ [x]) (ms.length + 1) ms.length := by
 refine ⟨fun i i0 hi hp => ?_, fun h0 i i0 hi hp => absurd hp (by omega)⟩
 rw [gi_app (by omega), gi_app (by omega)]
 exact h i i0 (by omega)
theorem gi_take {ms : List Int} {n i : Nat} (h : i < n) : gi (ms.take n) i = gi ms i := by simp [gi, List.getElem?_take_of_lt h]
theorem HeapI.take {ms : List Int} {n : Nat} (h : HeapI ms n) : HeapI (ms.take n) n := by
 intro i h0 hn
 rw [gi_take (by omega), gi_take hn]
 exact h i h0 hn
end Go.Proofs.YtjgggialnegddaaGreat
