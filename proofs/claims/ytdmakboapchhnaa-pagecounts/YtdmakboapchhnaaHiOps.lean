/-
  A heap of ints (its type: page.freePages) at a pointer to a field or a variable; contracts of its methods Len, Less, Swap, and of the calls of them through container/heap's interface.
-/
import Derived.Test.YtdmakboapchhnaaHiMath
namespace Go.Proofs.Ytdmakboapchhnaa
open Go.RowKit
set_option linter.unusedVariables false
set_option maxRecDepth 1000000

/-- The blocks of two pointers. -/
def at2 (B g k : Nat) : Prop := k = B ∨ k = g
theorem fb_set2 (w : World) (B g k : Nat) (u : Value) : Fb (at2 B g) w (w.setCell ⟨g, k, none⟩ u) := Fb.set (F := at2 B g) (p := ⟨g, k, none⟩) (.inr rfl) u
theorem fb_set3 (w : World) (B g k : Nat) (u : Value) : Fb (at2 B g) w (w.setCell ⟨B, k, none⟩ u) := Fb.set (F := at2 B g) (p := ⟨B, k, none⟩) (.inl rfl) u
theorem Fb.tr {F : Nat → Prop} {a b c : World} (h : Fb F a b) (k : Fb F b c) : Fb F a c := h.trans k fun x hx => .inl hx
/-- A heap of ints: its slice lies in cell o of block B, its numbers in block g. -/
structure HqAt (B o g cap : Nat) (cs : Array Value) (Tb : TypeId) (ms : List Int) (W : World) : Prop where
  var : W.heap[B]? = some (.cells cs Tb (0, 0))
  hdr : cs[o]? = some (.slice (some ⟨g, 0, none⟩) ms.length cap)
  own : OwnK 3 0 g ms.length cap ms W
  ne : B ≠ g
theorem HqAt.cell {B o g cap : Nat} {cs : Array Value} {Tb : TypeId} {ms : List Int} {W : World} (h : HqAt B o g cap cs Tb ms W) : W.cell? ⟨B, o, none⟩ = some (.slice (some ⟨g, 0, none⟩) ms.length cap) := by rw [cell_of_row _ _ _ _ _ _ h.var]; exact h.hdr
theorem HqAt.same {B o g cap : Nat} {cs : Array Value} {Tb : TypeId} {ms : List Int} {W W' : World} (h : HqAt B o g cap cs Tb ms W) (h1 : W'.heap[B]? = W.heap[B]?) (h2 : W'.heap[g]? = W.heap[g]?) : HqAt B o g cap cs Tb ms W' :=
  ⟨h1.trans h.var, h.hdr, h.own.same h2, h.ne⟩
theorem HqAt.below {B o g cap : Nat} {cs : Array Value} {Tb : TypeId} {ms : List Int} {W W' : World} (h : HqAt B o g cap cs Tb ms W) (hb : Below W.heap.size W W') : HqAt B o g cap cs Tb ms W' :=
  h.same (hb.block _ (lt_of_block h.var)) (hb.block _ h.own.lt)
theorem HqAt.fb {F : Nat → Prop} {B o g cap : Nat} {cs : Array Value} {Tb : TypeId} {ms : List Int} {W W' : World} (h : HqAt B o g cap cs Tb ms W) (hb : Fb F W W') (h1 : ¬ F B) (h2 : ¬ F g) : HqAt B o g cap cs Tb ms W' :=
  h.same (hb.block _ (lt_of_block h.var) h1) (hb.block _ h.own.lt h2)
theorem OwnK.room {t : TypeId} {base g m cap : Nat} {xs : List Int} {w : World} (h : OwnK t base g m cap xs w) : m ≤ cap ∧ cap ≤ 9223372036854775807 := by
  rcases id h.2 with ⟨h', _⟩ | ⟨g', c, cur, hv, hB, hg, hnc, hm, rest⟩
  · cases h'
  · cases hv; exact ⟨hnc, by unfold maxLen at hm; omega⟩

theorem qlen_any (a : Option Addr) (n cap : Nat) (w : World) : Calls Try.prog 26 #[.slice a n cap] w fun e w' => e = .returned (.int .i64 n) ∧ w = w' := by
  go_enter Try.func26, Try.ntmps26
  go_wp2
  go_ret
  exact ⟨rfl, rfl⟩
theorem qless_any (g n cap i j : Nat) (ms : List Int) (w : World) (h : OwnK 3 0 g n cap ms w) (hi : i < n) (hj : j < n) (hn : n ≤ 1001) :
    Calls Try.prog 48 #[.slice (some ⟨g, 0, none⟩) n cap, .int .i64 i, .int .i64 j] w fun e w' => e = .returned (.bool (decide (gi ms i < gi ms j))) ∧ Below w.heap.size w w' := by
  have ci : w.cell? ⟨g, i, none⟩ = some (.int .i64 (gi ms i)) := h.cell hi
  have cj : w.cell? ⟨g, j, none⟩ = some (.int .i64 (gi ms j)) := h.cell hj
  clear h
  generalize gi ms i = x at *
  generalize gi ms j = y at *
  go_enter Try.func48, Try.ntmps48
  go_wp2_with fail
  go_region
  go_wp2
  go_ret
  exact ⟨rfl, (Below.refl _ _).drew⟩
theorem qswap_any (g n cap i j : Nat) (ms : List Int) (w : World) (h : OwnK 3 0 g n cap ms w) (hi : i < n) (hj : j < n) (hn : n ≤ 1001) :
    Calls Try.prog 49 #[.slice (some ⟨g, 0, none⟩) n cap, .int .i64 i, .int .i64 j] w fun e w' => e = .returned (.tuple #[]) ∧ OwnK 3 0 g n cap (swi ms i j) w' ∧ Fb (at1 g) w w' := by
  have ci : w.cell? ⟨g, i, none⟩ = some (.int .i64 (gi ms i)) := h.cell hi
  have cj : w.cell? ⟨g, j, none⟩ = some (.int .i64 (gi ms j)) := h.cell hj
  have fi := h.frozen
  have h2 := h.set i (gi ms j)
  have c2 : (w.setCell ⟨g, i, none⟩ (.int .i64 (gi ms j))).cell? ⟨g, j, none⟩ = some (.int .i64 (gi (ms.set i (gi ms j)) j)) := h2.cell hj
  have f2 := h2.frozen
  have HS : Hid (OwnK 3 0 g n cap (swi ms i j) _) := h2.set j (gi ms i)
  have HF : Hid (∀ u v : Value, Fb (at1 g) w ((w.setCell ⟨g, i, none⟩ u).setCell ⟨g, j, none⟩ v)) := fun u v => (Fb.set (F := at1 g) (p := ⟨g, i, none⟩) rfl u).trans (Fb.set (F := at1 g) (p := ⟨g, j, none⟩) rfl v) fun x hx => .inl hx
  clear h h2
  generalize gi ms i = x at *
  generalize gi ms j = y at *
  generalize gi (ms.set i y) j = z at *
  go_enter Try.func49, Try.ntmps49
  go_wp2_with fail
  go_region
  go_wp2
  go_end0
  exact ⟨rfl, HS.out, (HF.out _ _).drew⟩

/-- The interface value. -/
abbrev hq (B o : Nat) : Value := .iface 59 (.pointer (some ⟨B, o, none⟩))
theorem Try.methI (name : String) (f : Nat) (h : (Try.prog.info? 59).map (fun i => (i.methods.find? (·.name == name)).map (fun m => (m.path, m.func))) = some (some (#[], some (f, false)))) :
    ∃ i m, Try.prog.info? 59 = some i ∧ i.methods.find? (·.name == name) = some m ∧ m.path = #[] ∧ m.func = some (f, false) := by
  cases hi : Try.prog.info? 59 with
  | none => rw [hi] at h; simp at h
  | some i =>
    rw [hi] at h
    simp only [Option.map_some, Option.some.injEq] at h
    cases hm : i.methods.find? (·.name == name) with
    | none => rw [hm] at h; simp at h
    | some m =>
      rw [hm] at h
      simp at h
      exact ⟨i, m, rfl, hm, h.1, h.2⟩
theorem wrapnilI (x : TypeId) (a : Addr) (s : String) (w : World) : (Builtin.ssaWrapNilChk_ #[x] x #[.pointer (some a), strVal "", strVal s]).run Try.prog w = .ok (.pointer (some a)) w := by kernel_rfl
theorem methI_val (name : String) (f : Nat) (h : (Try.prog.info? 59).map (fun i => (i.methods.find? (·.name == name)).map (fun m => (m.path, m.func))) = some (some (#[], some (f, false)))) (B o : Nat) (w : World) (v : Value) (hc : w.cell? ⟨B, o, none⟩ = some v) :
    (method 185 59 (.pointer (some ⟨B, o, none⟩)) name).run Try.prog w = .ok (f, v) w := by
  obtain ⟨i, m, hi, hm, hp, hf⟩ := Try.methI name f h
  unfold method
  simp [go_sem, typeInfo, hi, hm, hp, hf, follow, receiverAt, Place.get, wrapnilI, loadVar, hc]
theorem methI_less (B o : Nat) (w : World) (v : Value) (hc : w.cell? ⟨B, o, none⟩ = some v) : (method 185 59 (.pointer (some ⟨B, o, none⟩)) "Less").run Try.prog w = .ok (48, v) w := methI_val "Less" 48 (by kernel_rfl) B o w v hc
theorem methI_swap (B o : Nat) (w : World) (v : Value) (hc : w.cell? ⟨B, o, none⟩ = some v) : (method 185 59 (.pointer (some ⟨B, o, none⟩)) "Swap").run Try.prog w = .ok (49, v) w := methI_val "Swap" 49 (by kernel_rfl) B o w v hc
theorem methI_len (B o : Nat) (w : World) (v : Value) (hc : w.cell? ⟨B, o, none⟩ = some v) : (method 185 59 (.pointer (some ⟨B, o, none⟩)) "Len").run Try.prog w = .ok (26, v) w := methI_val "Len" 26 (by kernel_rfl) B o w v hc
theorem methI_push (a : Addr) (w : World) : (method 185 59 (.pointer (some a)) "Push").run Try.prog w = .ok (51, .pointer (some a)) w := by kernel_rfl
theorem methI_pop (a : Addr) (w : World) : (method 185 59 (.pointer (some a)) "Pop").run Try.prog w = .ok (50, .pointer (some a)) w := by kernel_rfl
theorem HqAt.less {B o g cap : Nat} {cs : Array Value} {Tb : TypeId} {ms : List Int} {W : World} (h : HqAt B o g cap cs Tb ms W) (i j : Nat) (hi : i < ms.length) (hj : j < ms.length) (hn : ms.length ≤ 1001) :
    Calls Try.prog 48 #[.slice (some ⟨g, 0, none⟩) ms.length cap, .int .i64 i, .int .i64 j] W fun e w' => e = .returned (.bool (decide (gi ms i < gi ms j))) ∧ HqAt B o g cap cs Tb ms w' ∧ Fb (at2 B g) W w' :=
  (qless_any g ms.length cap i j ms W h.own hi hj hn).mono fun e w' ⟨h1, h2⟩ => ⟨h1, h.below h2, Fb.of h2⟩
theorem HqAt.swap {B o g cap : Nat} {cs : Array Value} {Tb : TypeId} {ms : List Int} {W : World} (h : HqAt B o g cap cs Tb ms W) (i j : Nat) (hi : i < ms.length) (hj : j < ms.length) (hn : ms.length ≤ 1001) :
    Calls Try.prog 49 #[.slice (some ⟨g, 0, none⟩) ms.length cap, .int .i64 i, .int .i64 j] W fun e w' => e = .returned (.tuple #[]) ∧ HqAt B o g cap cs Tb (swi ms i j) w' ∧ Fb (at2 B g) W w' :=
  (qswap_any g ms.length cap i j ms W h.own hi hj hn).mono fun e w' ⟨h1, h2, h3⟩ => ⟨h1, ⟨h3.one h.var h.ne, by rw [swi_len]; exact h.hdr, by rw [swi_len]; exact h2, h.ne⟩, h3.mono fun x hx => .inr hx⟩
end Go.Proofs.Ytdmakboapchhnaa
