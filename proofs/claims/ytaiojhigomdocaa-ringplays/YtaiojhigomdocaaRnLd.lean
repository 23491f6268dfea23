/-
  The map of loads (LdAt); ranging over the nodes; counted, boundOf, Bound, Pick.
-/
import Derived.Test.YtaiojhigomdocaaRnOrd
import Derived.Maps.RangeWalk
namespace Go.Proofs.Ytaiojhigomdocaa
open Go.RowKit Go.Maps Go.Shelf Go.Sort
set_option linter.unusedVariables false
set_option maxRecDepth 1000000

/-- How a load reads. -/
def Ri : Value → Option (DataW Unit × List MemPlace)
  | .int k c => if k = .i64 then some (.lit (.int .i64 c), []) else none
  | _ => none
theorem Ri_mk (c : Int) : Ri (.int .i64 c) = some (.lit (.int .i64 c), []) := by simp [Ri]
theorem Ri_inv {v : Value} {c : Int} {ps : List MemPlace} (h : Ri v = some (.lit (.int .i64 c), ps)) : v = .int .i64 c := by
  cases v <;> simp [Ri] at h
  rename_i k a
  obtain ⟨rfl, rfl, _⟩ := h
  rfl
theorem izero (w : World) : (zeroValue 3).run Try.prog w = .ok (.int .i64 0) w := by kernel_rfl
/-- The map in block B leads x to f x. -/
def LdAt (W : World) (B : Nat) (f : Int → Int) : Prop :=
  ∃ (D : DataW Unit) (n : Nat), W.ownsMap Try.prog 22 Ri B n D ∧ n ≤ 1000 ∧ ∀ x, isU x → D.atKey (.int .u64 x) (.lit (.int .i64 0)) = .lit (.int .i64 (f x))
theorem LdAt.lt {W : World} {B : Nat} {f : Int → Int} (h : LdAt W B f) : B < W.heap.size := by obtain ⟨D, n, h1, _⟩ := h; exact h1.lt
theorem LdAt.same {W W' : World} {B : Nat} {f : Int → Int} (h : LdAt W B f) (hb : W'.heap[B]? = W.heap[B]?) : LdAt W' B f := by
  obtain ⟨D, n, ⟨es, clock, h1, h2⟩, h3⟩ := h
  exact ⟨D, n, ⟨es, clock, hb.trans h1, h2⟩, h3⟩
theorem LdAt.fb {F : Nat → Prop} {W W' : World} {B : Nat} {f : Int → Int} (h : LdAt W B f) (hb : Fb F W W') (hF : ¬ F B) : LdAt W' B f := h.same (hb.block _ h.lt hF)
theorem LdAt.below {W W' : World} {B : Nat} {f : Int → Int} (h : LdAt W B f) (hb : RowKit.Below W.heap.size W W') : LdAt W' B f := h.same (hb.block _ h.lt)
theorem LdAt.blk {W : World} {B : Nat} {f : Int → Int} (h : LdAt W B f) : ∃ es clock, W.heap[B]? = some (.map es clock) := by
  obtain ⟨D, n, ⟨es, clock, h1, h2⟩, h3⟩ := h
  exact ⟨es, clock, h1⟩
theorem LdAt.look {W : World} {B : Nat} {f : Int → Int} (h : LdAt W B f) {x : Int} (hx : isU x) : (Instr.lookup 37 (.map (some B)) (.int .u64 x) false).run Try.prog W = .ok (.int .i64 (f x)) W := by
  obtain ⟨D, n, h1, _, h2⟩ := h
  obtain ⟨u, ps, hr, hu⟩ := h1.lookup alaw Try.underlying37 (izero W) (zd := .lit (.int .i64 0)) (zp := []) rfl (akey hx)
  rw [h2 x hx] at hu
  rw [hr, Ri_inv hu]
/-- A number of entries at most. -/
def LdN (W : World) (B m : Nat) (f : Int → Int) : Prop :=
  ∃ (D : DataW Unit), W.ownsMap Try.prog 22 Ri B m D ∧ ∀ x, isU x → D.atKey (.int .u64 x) (.lit (.int .i64 0)) = .lit (.int .i64 (f x))
theorem LdN.at {W : World} {B m : Nat} {f : Int → Int} (h : LdN W B m f) (hm : m ≤ 1000) : LdAt W B f := by
  obtain ⟨D, h1, h2⟩ := h
  exact ⟨D, m, h1, hm, h2⟩
theorem LdN.new (w : World) : LdN (w.alloc (.map #[] 0)) w.heap.size 0 (fun _ => 0) := ⟨.map [], World.ownsMap_made _ _ _ _, fun v _ => rfl⟩
theorem LdN.store {W : World} {B m : Nat} {f : Int → Int} (h : LdN W B m f) (hn : m ≤ 1000) {x : Int} (hx : isU x) (c : Int) :
    ∃ W', (Instr.mapUpdate 37 (.map (some B)) (.int .u64 x) (.int .i64 c)).run Try.prog W = .ok () W' ∧ LdN W' B (m + 1) (fun y => if y = x then c else f y) ∧ Fb (at1 B) W W' := by
  obtain ⟨D, h1, h2⟩ := h
  obtain ⟨W', hr, ho, hg⟩ := h1.store alaw Try.underlying37 (by unfold maxLen; omega) (akey hx) (Ri_mk c)
  refine ⟨W', hr, ⟨_, ho, fun u hu => ?_⟩, fb_map hg⟩
  by_cases e : u = x
  · subst e
    rw [atKey_put_same h1.isMap (alaw.key (akey hx))]
    simp
  · have hne : Lit.int .u64 u ≠ Lit.int .u64 x := fun e2 => e (by cases e2; rfl)
    rw [atKey_put_other hne, h2 u hu]
    simp [e]
/-- A range over the nodes: those of ss have come. -/
def RsAt (W : World) (M r : Nat) (L ss : List Int) (cnt : Nat) : Prop :=
  ∃ (D : DataW Unit) (left : Lit → Bool), W.ranges Try.prog 22 Rs M r L.length D left cnt ∧ ClU D left ss ∧ (∀ x, isU x → Maps.has D (.int .u64 x) = decide (x ∈ L)) ∧ L.Nodup ∧ (∀ x ∈ L, isU x)
theorem RsAt.left {W : World} {M r : Nat} {L ss : List Int} {cnt : Nat} (h : RsAt W M r L ss cnt) : W.rangeLeft M r = cnt := by
  obtain ⟨D, left, h1, _⟩ := h
  exact h1.left_eq
theorem SmAt.range {W : World} {M : Nat} {L : List Int} (h : SmAt W M L) :
    ∃ W' cnt, (Instr.range 55 (.map (some M))).run Try.prog W = .ok (.pointer (some ⟨W.heap.size, 0, none⟩)) W' ∧ RsAt W' M W.heap.size L [] cnt ∧ RowKit.Below W.heap.size W W' := by
  obtain ⟨D, h1, h2, h3, h4, h5⟩ := h
  obtain ⟨W', hr, hg, hgr, hs⟩ := h1.range alaw Try.underlying55
  exact ⟨W', _, hr, ⟨D, _, hg, ClU.start D, h2, h4, h5⟩, ⟨hgr.os, hgr.tape, hgr.output, hgr.size, fun k hk => hgr.block k hk (by simp)⟩⟩
theorem RsAt.next {W : World} {M r : Nat} {L ss : List Int} {cnt : Nat} (h : RsAt W M r L ss cnt) (ty : TypeId) :
    (ss.Perm L ∧ (Instr.next (.pointer (some ⟨r, 0, none⟩)) false ty).run Try.prog W = .ok (.tuple #[.bool false]) W) ∨
    ∃ x u W' cnt', isU x ∧ x ∈ L ∧ (Instr.next (.pointer (some ⟨r, 0, none⟩)) false ty).run Try.prog W = .ok (.tuple #[.bool true, .int .u64 x, u]) W' ∧ (Instr.entry (.pointer (some ⟨r, 0, none⟩))).run Try.prog W' = .ok (.tuple #[.int .u64 x, u]) W' ∧
      RsAt W' M r L (ss ++ [x]) cnt' ∧ cnt' < cnt ∧ Fb (at1 r) W W' := by
  obtain ⟨D, left, h1, h2, h3, h4, h5⟩ := h
  rcases h1.next alaw ty with ⟨h0, hl, hrun⟩ | ⟨key, u, kl, y, W', cnt', hkey, hlk, hu, hat, hrun, hrg, hlt, hgr, hsz, hen⟩
  · refine .inl ⟨(List.perm_ext_iff_of_nodup h2.1 h4).2 fun x => ?_, hrun⟩
    constructor
    · intro hx
      have := ((h2.2.2 x (h2.2.1 x hx)).1 hx).1
      rw [h3 x (h2.2.1 x hx)] at this
      simpa using this
    · intro hx
      rw [h2.2.2 x (h5 x hx), hl, h3 x (h5 x hx)]
      simpa using hx
  · right
    obtain ⟨x, rfl, rfl, hxU⟩ := akey_inv hkey
    have hhas : Maps.has D (.int .u64 x) = true := has_true_of_atKey (y := y.1) hat
    rw [h3 x hxU] at hhas
    exact ⟨x, u, W', cnt', hxU, by simpa using hhas, hrun, hen, ⟨D, _, hrg, h2.step hxU hlk hat, h3, h4, h5⟩, hlt, ⟨hgr.os, hgr.tape, hgr.output, hgr.size, fun k hk hn => hgr.block k hk fun e => hn (by cases e; rfl)⟩⟩
theorem RsAt.same {W W' : World} {M r : Nat} {L ss : List Int} {cnt : Nat} (h : RsAt W M r L ss cnt) (h1 : W'.heap[M]? = W.heap[M]?) (h2 : W'.heap[r]? = W.heap[r]?) : RsAt W' M r L ss cnt := by
  obtain ⟨D, left, ⟨es, clock, since, seen, c0, hb, F, hs, hD, hr, rest⟩, h4⟩ := h
  exact ⟨D, left, ⟨es, clock, since, seen, c0, h1.trans hb, F, hs, hD, h2.trans hr, rest⟩, h4⟩
/-- What a load counts as. -/
def cntZ (c : Int) : Int := min (max c 0) 1048576
theorem cntZ_bd (c : Int) : 0 ≤ cntZ c ∧ cntZ c ≤ 1048576 := by unfold cntZ; omega
def sumZ (f : Int → Int) : List Int → Int
  | [] => 0
  | x :: l => cntZ (f x) + sumZ f l
theorem sumZ_app (f : Int → Int) : ∀ l m : List Int, sumZ f (l ++ m) = sumZ f l + sumZ f m
  | [], m => by simp [sumZ]
  | x :: l, m => by simp only [List.cons_append, sumZ, sumZ_app f l m]; omega
theorem sumZ_perm {f : Int → Int} {l m : List Int} (h : l.Perm m) : sumZ f l = sumZ f m := by
  induction h with
  | nil => rfl
  | cons x _ ih => simp only [sumZ, ih]
  | swap x y l => simp only [sumZ]; omega
  | trans _ _ h1 h2 => exact h1.trans h2
theorem sumZ_bd (f : Int → Int) : ∀ l : List Int, 0 ≤ sumZ f l ∧ sumZ f l ≤ l.length * 1048576
  | [] => by simp [sumZ]
  | x :: l => by
    have := sumZ_bd f l
    have := cntZ_bd (f x)
    simp only [sumZ, List.length_cons]
    omega
def facZ (c : Int) : Int := min (max c 100) 10000
/-- The bound. -/
def bndZ (f : Int → Int) (fac : Int) (L : List Int) : Int := if L.length = 0 then 0 else ((sumZ f L + 1) * facZ fac + 100 * L.length - 1) / (100 * L.length)
theorem counted_any (c : Int) (W : World) : Calls Try.prog 29 #[.int .i64 c] W fun r w' => r = .returned (.int .i64 (cntZ c)) ∧ w' = W := by
  obtain ⟨q, Hq⟩ : ∃ q, Hid (cntZ c = q) := ⟨_, rfl⟩
  rw [Hq.out]
  go_enter Try.func29, Try.ntmps29
  go_wp2
  go_ret
  exact ⟨by rw [← Hq.out]; unfold cntZ; rfl, rfl⟩
end Go.Proofs.Ytaiojhigomdocaa
