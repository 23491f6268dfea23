/-
  A row of numbers that the call owns (OwnK); contracts: madeOf (with whatever function it is handed), Scale, Relu.
-/
import Derived.Test.YtpllffekebkacaaBoths
namespace Go.Proofs.Ytpllffekebkacaa
open Go.RowKit
set_option linter.unusedVariables false
set_option maxRecDepth 1000000

theorem made1_any (fn : Nat) (caps : Array Value) (hE : ∀ args w, (callFunc fn args).run Try.prog w = .ok (.enter fn args) w) (k : Nat) (x y : Int) (Bo Bm base g m : Nat) (us : List Int) (wr : World) (hm : m ≤ 1000)
    (ho : wr.heap[Bo]? = some (.cells #[.func (.func fn) #[] caps] 47 (0, 0))) (hq : wr.heap[Bm]? = some (.cells #[.slice (some ⟨g, 0, none⟩) m m] 22 (0, 0)))
    (hO : OwnK 2 base g m m us wr) (hk : k < m) (hgo : Bo ≠ g) (hgm : Bm ≠ g)
    (hC : Calls Try.prog fn (#[.int .i64 x] ++ caps) wr.drew fun e w' => e = .returned (.int .i64 y) ∧ Below wr.heap.size wr w') :
    Calls Try.prog 85 #[.int .i64 k, .int .i64 x, .pointer (some ⟨Bo, 0, none⟩), .pointer (some ⟨Bm, 0, none⟩)] wr fun e w' => e = .returned (.tuple #[]) ∧ OwnK 2 base g m m (us.set k y) w' ∧ But [g] wr w' := by
  have cd := cell_of_one ho
  have cq := cell_of_one hq
  have HO := hid hO
  have HK : Hid (∀ W, But [g] wr W → W.cell? ⟨Bo, 0, none⟩ = some (.func (.func fn) #[] caps) ∧ W.cell? ⟨Bm, 0, none⟩ = some (.slice (some ⟨g, 0, none⟩) m m)) :=
    fun W h => ⟨h.cell cd (by simpa using hgo), h.cell cq (by simpa using hgm)⟩
  clear ho hq hO hgo hgm
  go_enter Try.func85, Try.ntmps85
  go_wp2_with fail
  go_region_held3 (fun W : World => W.cell? ⟨Bo, 0, none⟩ = some (.func (.func fn) #[] caps) ∧ W.cell? ⟨Bm, 0, none⟩ = some (.slice (some ⟨g, 0, none⟩) m m)) (first | exact ⟨cd, cq⟩ | assumption | exact HK.out _ (But.of hB) | exact HK.out _ ((But.of hB).set (p := ⟨g, k, none⟩) (List.mem_singleton.2 rfl) _)) (first | (refine hC.mono ?_; rintro e w2 ⟨rfl, hB⟩; have HO2 := hid (HO.out.stays hB); have ck := HO2.out.cell hk; have fk := HO2.out.frozen k))
  have HS : Hid (OwnK 2 base g m m (us.set k y) (w2.setCell ⟨g, k, none⟩ (.int .i64 y))) := HO2.out.set k y
  have HB : Hid (But [g] wr (w2.setCell ⟨g, k, none⟩ (.int .i64 y))) := (But.of hB).set (p := ⟨g, k, none⟩) (List.mem_singleton.2 rfl) _
  clear HK cd cq HO HO2 ck fk hB hC
  go_wp2
  go_end0
  exact ⟨rfl, HS.out, HB.out⟩

/-- What is made behind k rounds. -/
def madeK (f : Int → Int) (zs : List Int) (len k : Nat) : List Int := (zs.take k).map f ++ List.replicate (len - k) 0
theorem madeK_set {f : Int → Int} {zs : List Int} {k : Nat} (h : k < zs.length) : (madeK f zs zs.length k).set k (f (zs[k]?.getD 0)) = madeK f zs zs.length (k + 1) := by
  unfold madeK
  have hl : ((zs.take k).map f).length = k := by simp; omega
  rw [List.set_append_right _ _ (by omega), hl, Nat.sub_self, take_snoc h, List.map_append, List.append_assoc]
  congr 1
  rw [show zs.length - k = zs.length - (k + 1) + 1 by omega, List.replicate_succ]
  rfl
theorem madeK_all (f : Int → Int) (zs : List Int) : madeK f zs zs.length zs.length = zs.map f := by unfold madeK; simp

/-- What stands in memory between the rounds of madeOf: the function, the row, and the variable that holds it. -/
structure MadeAt (w : World) (fn : Nat) (caps : Array Value) (T : TypeId) (B len : Nat) (us : List Int) (W : World) : Prop where
  old : Below w.heap.size w W
  fun_ : W.heap[B]? = some (.cells #[.func (.func fn) #[] caps] T (0, 0))
  var : W.heap[B + 2]? = some (.cells #[.slice (some ⟨B + 1, 0, none⟩) len len] 22 (0, 0))
  own : OwnK 2 w.heap.size (B + 1) len len us W

theorem MadeAt.new (w : World) (fn : Nat) (caps : Array Value) (T : TypeId) (len : Nat) (hlen : len ≤ 1000) :
    MadeAt w fn caps T w.heap.size len (List.replicate len 0) (((w.alloc (.cells #[.func (.func fn) #[] caps] T)).alloc (.cells (madeCells #[.int .i64 0] len) 2)).alloc (.cells #[.slice (some ⟨w.heap.size + 1, 0, none⟩) len len] 22)) := by
  have h1 := own_made 2 (w.alloc (.cells #[.func (.func fn) #[] caps] T)) len (by omega)
  have e1 : (w.alloc (.cells #[.func (.func fn) #[] caps] T)).heap.size = w.heap.size + 1 := by simp
  rw [e1] at h1
  refine ⟨?_, ?_, ?_, ?_⟩
  · exact (((Below.refl _ _).alloc (Nat.le_refl _) _).alloc (by simp) _).alloc (by simp; omega) _
  · rw [Below.heap_alloc _ _ _ (by simp; omega), Below.heap_alloc _ _ _ (by simp)]
    exact heap_alloc_new w _
  · have := heap_alloc_new ((w.alloc (.cells #[.func (.func fn) #[] caps] T)).alloc (.cells (madeCells #[.int .i64 0] len) 2)) (.cells #[.slice (some ⟨w.heap.size + 1, 0, none⟩) len len] 22)
    simpa using this
  · exact (h1.low (by omega)).stays ((Below.refl _ _).alloc (Nat.le_refl _) _)

theorem madeEach_any (fn : Nat) (caps : Array Value) (hE : ∀ args w, (callFunc fn args).run Try.prog w = .ok (.enter fn args) w) (a : Option Addr) (len cap : Nat) (zs : List Int) (w W : World) (ha : Reads .i64 w a len cap zs) (hlen : len ≤ 1000) (f : Int → Int)
    (hC : ∀ x wr, Below w.heap.size w wr → Calls Try.prog fn (#[.int .i64 x] ++ caps) wr fun e w' => e = .returned (.int .i64 (f x)) ∧ Below wr.heap.size wr w')
    (h0 : MadeAt w fn caps 47 w.heap.size len (List.replicate len 0) W) :
    Calls Try.prog 43 #[.slice a len cap, .func (.func 85) #[] #[.pointer (some ⟨w.heap.size, 0, none⟩), .pointer (some ⟨w.heap.size + 2, 0, none⟩)]] W
      fun e w' => e = .returned (.tuple #[]) ∧ MadeAt w fn caps 47 w.heap.size len (zs.map f) w' := by
  have hz := ha.size
  subst hz
  refine (each_any 85 _ a zs.length cap zs W hlen (fun k W => MadeAt w fn caps 47 w.heap.size zs.length (madeK f zs zs.length k) W) (enters_of Try.func85 (by kernel_rfl) rfl) ?_ ?_ ?_).mono ?_
  · intro k wr hk
    exact ha.below hk.old
  · unfold madeK
    simpa using h0
  · intro k wr hk hI
    have hdr : Below wr.heap.size wr wr.drew := (Below.refl _ _).drew
    refine (made1_any fn caps hE k _ (f (zs[k]?.getD 0)) w.heap.size (w.heap.size + 2) w.heap.size (w.heap.size + 1) zs.length _ wr hlen hI.fun_ hI.var hI.own hk (by omega) (by omega) ?_).mono ?_
    · exact (hC _ _ (hI.old.trans (hdr.mono hI.old.size))).mono fun e w' ⟨h1, h2⟩ => ⟨h1, hdr.trans (h2.mono (Nat.le_refl _))⟩
    · rintro e w' ⟨h1, h2, h3⟩
      refine ⟨h1, ?_, h3.one hI.fun_ (by simp), h3.one hI.var (by simp), ?_⟩
      · exact hI.old.trans (h3.to (fun s hs => by rw [List.mem_singleton.1 hs]; omega) hI.old.size)
      · rw [← madeK_set hk]; exact h2
  · rintro e w' ⟨h1, h2⟩
    rw [madeK_all] at h2
    exact ⟨h1, h2⟩

theorem madeof_any (fn : Nat) (caps : Array Value) (hE : ∀ args w, (callFunc fn args).run Try.prog w = .ok (.enter fn args) w) (a : Option Addr) (len cap : Nat) (zs : List Int) (w : World) (ha : Reads .i64 w a len cap zs) (hlen : len ≤ 1000) (f : Int → Int)
    (hC : ∀ x wr, Below w.heap.size w wr → Calls Try.prog fn (#[.int .i64 x] ++ caps) wr fun e w' => e = .returned (.int .i64 (f x)) ∧ Below wr.heap.size wr w') :
    Calls Try.prog 64 #[.slice a len cap, .func (.func fn) #[] caps] w fun e w' => ∃ g, e = .returned (.slice (some ⟨g, 0, none⟩) len len) ∧ OwnK 2 w.heap.size g len len (zs.map f) w' ∧ Below w.heap.size w w' := by
  have HM := hid fun W => madeEach_any fn caps hE a len cap zs w W ha hlen f hC
  have hmk := make_ints (w.alloc (.cells #[.func (.func fn) #[] caps] 47)) len (by omega)
  clear ha hC
  go_enter Try.func64, Try.ntmps64
  go_wp2_with fail
  refine (count_any _ _ _ _ hlen).mono ?_
  rintro e w' ⟨rfl, rfl⟩
  go_wp2_with fail
  refine (HM.out _ (MadeAt.new _ _ _ _ _ hlen)).mono ?_
  rintro e w' ⟨rfl, h⟩
  have cv := cell_of_one h.var
  have HO := hid h.own
  have HB := hid h.old
  clear h HM hmk
  go_wp2
  go_ret
  exact ⟨_, rfl, HO.out, HB.out⟩
end Go.Proofs.Ytpllffekebkacaa
