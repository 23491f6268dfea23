/-
  PgRef: The document's side of layer 13: contracts of its pool: New, Take, Held, Hold, Drop, Used.
  PgFree: The free pages of a pool as a list without doubles (FreeOf): what a page taken out, and one put in, makes of it; how many are held.
  HiOps: A heap of ints (its type: page.freePages) at a pointer to a field or a variable; contracts of its methods Len, Less, Swap, and of the calls of them through container/heap's interface.
  HiUps: Contract: heap.up over a heap of ints.
  EnArgs: Arguments of statements that are messages (Ms), settings (Sg), steps (Sp) or jobs, and lists of them, as they came in.
  EnMap: The map of a replica's attempts, from their numbers to their blocks, as a function (AmAt): looked up, stored into, struck, counted, cleared.
-/
import Derived.Test.YtjgggialnegddaaGreatPx02
import Derived.Test.YtjgggialnegddaaGreatPk01
import Derived.Deep.Slices
import Derived.ProofKit
namespace Go.Proofs.YtjgggialnegddaaGreat
open Go.RowKit
set_option linter.unusedVariables false
set_option maxRecDepth 1000000

theorem fb_set1 (w : World) (b k : Nat) (u : Value) : Fb (at1 b) w (w.setCell ⟨b, k, none⟩ u) := Fb.set (F := at1 b) (p := ⟨b, k, none⟩) rfl u
theorem make_intsI (w : World) (m : Nat) (hm : m ≤ 1001) : (Instr.makeSlice 41 (.int .i64 (m : Int)) (.int .i64 (m : Int))).run Tryz.prog w = .ok (.slice (some ⟨w.heap.size, 0, none⟩) m m) (w.alloc (.cells (madeCells #[.int .i64 0] m) 3)) := by
  obtain ⟨i0, hi, hz0, hz1, hz2⟩ := info_parts Tryz.info3
  have := run_make (P := Tryz.prog) w 41 3 i0 (.int .i64 0) Tryz.underlying41 hi hz0 .i64 .i64 (m : Int) (m : Int) (by omega) (Int.le_refl _) (by rw [hz2]; omega) (by omega)
  rw [this, hz1, Int.toNat_natCast, Nat.mul_one]
  rfl
end Go.Proofs.YtjgggialnegddaaGreat
namespace Go.Proofs.YtjgggialnegddaaGreat
open Go.RowKit
set_option linter.unusedVariables false
set_option maxRecDepth 1000000

/-- These are the free pages, each once. -/
structure FreeOf (hs fs : List Int) : Prop where
  nd : fs.Nodup
  mem : ∀ x, x ∈ fs ↔ ∃ i : Nat, i < hs.length ∧ x = i ∧ hs[i]?.getD 0 = 0
  cnt : fs.length + (usedL hs).length = hs.length
theorem used_set {hs : List Int} {i : Nat} {v : Int} (hi : i < hs.length) : ∀ k, k ≤ hs.length → (usedK (hs.set i v) k).length + (if i < k ∧ 0 < hs[i]?.getD 0 then 1 else 0) = (usedK hs k).length + (if i < k ∧ 0 < v then 1 else 0) := by
  intro k
  induction k with
  | zero => intro _; simp [usedK]
  | succ k ih =>
    intro hk
    have h := ih (by omega)
    simp only [usedK]
    by_cases e : k = i
    · subst e
      have e1 : (hs.set k v)[k]?.getD 0 = v := by rw [List.getElem?_set, if_pos rfl, if_pos hi]; rfl
      rw [e1]
      simp only [Nat.lt_irrefl, false_and, if_false, Nat.add_zero] at h
      have a1 : k < k + 1 := by omega
      simp only [a1, true_and]
      split <;> split <;> simp <;> omega
    · have e1 : (hs.set i v)[k]?.getD 0 = hs[k]?.getD 0 := by rw [List.getElem?_set, if_neg (fun h => e h.symm)]
      rw [e1]
      have a1 : (i < k + 1) = (i < k) := propext ⟨fun h => by omega, fun h => by omega⟩
      simp only [a1]
      by_cases q : 0 < hs[k]?.getD 0
      · rw [if_pos q, if_pos q]; simp only [List.length_append, List.length_singleton]; omega
      · rw [if_neg q, if_neg q]; exact h
theorem used_set1 {hs : List Int} {i : Nat} {v : Int} (hi : i < hs.length) (h0 : hs[i]?.getD 0 = 0) (hv : 0 < v) : (usedL (hs.set i v)).length = (usedL hs).length + 1 := by
  have := used_set (v := v) hi hs.length (Nat.le_refl _)
  rw [if_neg (by omega), if_pos ⟨hi, hv⟩] at this
  unfold usedL
  rw [List.length_set]
  omega
theorem used_set0 {hs : List Int} {i : Nat} (hi : i < hs.length) (h0 : 0 < hs[i]?.getD 0) : (usedL (hs.set i 0)).length + 1 = (usedL hs).length := by
  have := used_set (v := 0) hi hs.length (Nat.le_refl _)
  rw [if_pos ⟨hi, h0⟩, if_neg (by omega)] at this
  unfold usedL
  rw [List.length_set]
  omega
theorem used_setn {hs : List Int} {i : Nat} {v : Int} (hi : i < hs.length) (h0 : 0 < hs[i]?.getD 0) (hv : 0 < v) : (usedL (hs.set i v)).length = (usedL hs).length := by
  have := used_set (v := v) hi hs.length (Nat.le_refl _)
  rw [if_pos ⟨hi, h0⟩, if_pos ⟨hi, hv⟩] at this
  unfold usedL
  rw [List.length_set]
  omega
theorem set_at (hs : List Int) {i : Nat} (v : Int) (hi : i < hs.length) (j : Nat) : (hs.set i v)[j]?.getD 0 = if j = i then v else hs[j]?.getD 0 := by
  rw [List.getElem?_set]
  by_cases e : i = j
  · subst e; rw [if_pos rfl, if_pos hi, if_pos rfl]; rfl
  · rw [if_neg e, if_neg (fun h => e h.symm)]
/-- The least one is taken out. -/
theorem FreeOf.pop {hs fs ns : List Int} {x : Int} (h : FreeOf hs fs) (hp : (x :: ns).Perm fs) (hm : ∀ y ∈ fs, x ≤ y) : takeI hs < hs.length ∧ x = (takeI hs : Int) ∧ FreeOf (takeH hs) ns := by
  have hx : x ∈ fs := hp.subset (List.mem_cons_self ..)
  obtain ⟨i, hi, rfl, h0⟩ := (h.mem x).1 hx
  have ht : takeI hs = i := takeI_at hi h0 fun j hj e => by
    have := hm j ((h.mem j).2 ⟨j, by omega, rfl, e⟩)
    omega
  have hlt : takeI hs < hs.length := by omega
  have hH : takeH hs = hs.set i 1 := by unfold takeH; rw [if_pos hlt, ht]
  have hnd := hp.nodup_iff.2 h.nd
  rw [List.nodup_cons] at hnd
  refine ⟨hlt, by rw [ht], hnd.2, fun y => ?_, ?_⟩
  · rw [hH, List.length_set]
    constructor
    · intro hy
      obtain ⟨j, hj, rfl, hj0⟩ := (h.mem y).1 (hp.subset (List.mem_cons_of_mem _ hy))
      refine ⟨j, hj, rfl, ?_⟩
      rw [set_at _ _ hi, if_neg, hj0]
      rintro rfl
      exact hnd.1 hy
    · rintro ⟨j, hj, rfl, hj0⟩
      rw [set_at _ _ hi] at hj0
      by_cases e : j = i
      · rw [if_pos e] at hj0; omega
      · rw [if_neg e] at hj0
        have : (j : Int) ∈ (i : Int) :: ns := hp.symm.subset ((h.mem _).2 ⟨j, hj, rfl, hj0⟩)
        rcases List.mem_cons.1 this with h1 | h1
        · omega
        · exact h1
  · have hl := hp.length_eq
    simp only [List.length_cons] at hl
    rw [hH, used_set1 hi h0 (by omega), List.length_set]
    have := h.cnt
    omega
/-- One is put in. -/
theorem FreeOf.push {hs fs ns : List Int} {i : Nat} (h : FreeOf hs fs) (hi : i < hs.length) (h0 : 0 < hs[i]?.getD 0) (hp : ns.Perm (fs ++ [(i : Int)])) : FreeOf (hs.set i 0) ns := by
  have hni : (i : Int) ∉ fs := fun hx => by
    obtain ⟨j, hj, e, hj0⟩ := (h.mem _).1 hx
    have : j = i := by omega
    subst this
    omega
  refine ⟨hp.nodup_iff.2 ?_, fun y => ?_, ?_⟩
  · rw [List.nodup_append]
    refine ⟨h.nd, by simp, fun a ha b hb => ?_⟩
    simp at hb
    subst hb
    rintro rfl
    exact hni ha
  · rw [hp.mem_iff, List.mem_append, List.mem_singleton, List.length_set]
    constructor
    · rintro (hy | rfl)
      · obtain ⟨j, hj, rfl, hj0⟩ := (h.mem y).1 hy
        refine ⟨j, hj, rfl, ?_⟩
        rw [set_at _ _ hi]
        by_cases e : j = i
        · rw [if_pos e]
        · rw [if_neg e]; exact hj0
      · exact ⟨i, hi, rfl, by rw [set_at _ _ hi, if_pos rfl]⟩
    · rintro ⟨j, hj, rfl, hj0⟩
      rw [set_at _ _ hi] at hj0
      by_cases e : j = i
      · right; rw [e]
      · rw [if_neg e] at hj0
        left
        exact (h.mem _).2 ⟨j, hj, rfl, hj0⟩
  · have hl := hp.length_eq
    simp only [List.length_append, List.length_singleton] at hl
    have h2 := used_set0 hi h0
    rw [List.length_set]
    have := h.cnt
    omega
/-- One that stays held. -/
theorem FreeOf.stay {hs fs : List Int} {i : Nat} {v : Int} (h : FreeOf hs fs) (hi : i < hs.length) (h0 : 0 < hs[i]?.getD 0) (hv : 0 < v) : FreeOf (hs.set i v) fs := by
  refine ⟨h.nd, fun y => ?_, by rw [used_setn hi h0 hv, List.length_set]; exact h.cnt⟩
  rw [h.mem, List.length_set]
  constructor
  · rintro ⟨j, hj, rfl, hj0⟩
    refine ⟨j, hj, rfl, ?_⟩
    rw [set_at _ _ hi, if_neg, hj0]
    rintro rfl
    omega
  · rintro ⟨j, hj, rfl, hj0⟩
    rw [set_at _ _ hi] at hj0
    by_cases e : j = i
    · rw [if_pos e] at hj0; omega
    · rw [if_neg e] at hj0; exact ⟨j, hj, rfl, hj0⟩
/-- None is free. -/
theorem FreeOf.none {hs : List Int} (h : FreeOf hs []) : ¬ takeI hs < hs.length := fun ht => by
  have := (h.mem (takeI hs : Int)).2 ⟨_, ht, rfl, takeI_free ht⟩
  simp at this
/-- The numbers from 0 on. -/
def upto (n : Nat) : List Int := (List.range n).map fun i : Nat => (i : Int)
theorem upto_len (n : Nat) : (upto n).length = n := by simp [upto]
theorem upto_at {n i : Nat} (h : i < n) : (upto n)[i]?.getD 0 = (i : Int) := by simp [upto, h]
theorem used_none (n : Nat) : ∀ k, k ≤ n → usedK (List.replicate n 0) k = [] := by
  intro k
  induction k with
  | zero => intro _; rfl
  | succ k ih =>
    intro hk
    simp only [usedK]
    have e : (List.replicate n (0 : Int))[k]?.getD 0 = 0 := by rw [List.getElem?_replicate, if_pos (by omega)]; rfl
    rw [ih (by omega), e, if_neg (by omega)]
theorem free_new (n : Nat) : FreeOf (List.replicate n 0) (upto n) := by
  refine ⟨?_, fun x => ?_, ?_⟩
  · unfold upto
    exact List.Pairwise.map _ (fun a b (h : a ≠ b) e => h (Int.ofNat.inj e)) List.nodup_range
  · unfold upto
    rw [List.mem_map, List.length_replicate]
    constructor
    · rintro ⟨i, hi, rfl⟩
      rw [List.mem_range] at hi
      exact ⟨i, hi, rfl, by rw [List.getElem?_replicate, if_pos hi]; rfl⟩
    · rintro ⟨i, hi, rfl, _⟩
      exact ⟨i, List.mem_range.2 hi, rfl⟩
  · unfold usedL
    rw [upto_len, List.length_replicate, used_none n n (Nat.le_refl _)]
    rfl
end Go.Proofs.YtjgggialnegddaaGreat
namespace Go.Proofs.YtjgggialnegddaaGreat
open Go.RowKit
set_option linter.unusedVariables false
set_option maxRecDepth 1000000

/-- The blocks of two pointers. -/
def at2 (B g k : Nat) : Prop := k = B ∨ k = g
theorem fb_set2 (w : World) (B g k : Nat) (u : Value) : Fb (at2 B g) w (w.setCell ⟨g, k, none⟩ u) := Fb.set (F := at2 B g) (p := ⟨g, k, none⟩) (.inr rfl) u
theorem fb_set3 (w : World) (B g k : Nat) (u : Value) : Fb (at2 B g) w (w.setCell ⟨B, k, none⟩ u) := Fb.set (F := at2 B g) (p := ⟨B, k, none⟩) (.inl rfl) u
theorem Fb.tr {F : Nat → Prop} {a b c : World} (h : Fb F a b) (k : Fb F b c) : Fb F a c := h.trans k fun x hx => .inl hx
/-- A heap of ints: its slice lies in cell o of block B, its numbers in block g. -/
structure HqAt (B o g cap : Nat) (cs : Array Value) (Tb : TypeId) (ms : List Int) (W : World) : Prop where
  var : W.heap[B]? = some (.cells cs Tb (0, 0))
  hdr : cs[o]? = some (.slice (some ⟨g, 0, none⟩) ms.length cap)
  own : OwnK 3 0 g ms.length cap ms W
  ne : B ≠ g
theorem HqAt.cell {B o g cap : Nat} {cs : Array Value} {Tb : TypeId} {ms : List Int} {W : World} (h : HqAt B o g cap cs Tb ms W) : W.cell? ⟨B, o, none⟩ = some (.slice (some ⟨g, 0, none⟩) ms.length cap) := by rw [cell_of_row _ _ _ _ _ _ h.var]; exact h.hdr
theorem HqAt.same {B o g cap : Nat} {cs : Array Value} {Tb : TypeId} {ms : List Int} {W W' : World} (h : HqAt B o g cap cs Tb ms W) (h1 : W'.heap[B]? = W.heap[B]?) (h2 : W'.heap[g]? = W.heap[g]?) : HqAt B o g cap cs Tb ms W' :=
  ⟨h1.trans h.var, h.hdr, h.own.same h2, h.ne⟩
theorem HqAt.below {B o g cap : Nat} {cs : Array Value} {Tb : TypeId} {ms : List Int} {W W' : World} (h : HqAt B o g cap cs Tb ms W) (hb : Below W.heap.size W W') : HqAt B o g cap cs Tb ms W' :=
  h.same (hb.block _ (lt_of_block h.var)) (hb.block _ h.own.lt)
theorem HqAt.fb {F : Nat → Prop} {B o g cap : Nat} {cs : Array Value} {Tb : TypeId} {ms : List Int} {W W' : World} (h : HqAt B o g cap cs Tb ms W) (hb : Fb F W W') (h1 : ¬ F B) (h2 : ¬ F g) : HqAt B o g cap cs Tb ms W' :=
  h.same (hb.block _ (lt_of_block h.var) h1) (hb.block _ h.own.lt h2)
theorem OwnK.room {t : TypeId} {base g m cap : Nat} {xs : List Int} {w : World} (h : OwnK t base g m cap xs w) : m ≤ cap ∧ cap ≤ 9223372036854775807 := by
  rcases id h.2 with ⟨h', _⟩ | ⟨g', c, cur, hv, hB, hg, hnc, hm, rest⟩
  · cases h'
  · cases hv; exact ⟨hnc, by unfold maxLen at hm; omega⟩

theorem qlen_any (a : Option Addr) (n cap : Nat) (w : World) : Calls Tryz.prog 158 #[.slice a n cap] w fun e w' => e = .returned (.int .i64 n) ∧ w = w' := by
  go_enter Tryz.func158, Tryz.ntmps158
  go_wp2
  go_ret
  exact ⟨rfl, rfl⟩
theorem qless_any (g n cap i j : Nat) (ms : List Int) (w : World) (h : OwnK 3 0 g n cap ms w) (hi : i < n) (hj : j < n) (hn : n ≤ 1001) :
    Calls Tryz.prog 267 #[.slice (some ⟨g, 0, none⟩) n cap, .int .i64 i, .int .i64 j] w fun e w' => e = .returned (.bool (decide (gi ms i < gi ms j))) ∧ Below w.heap.size w w' := by
  have ci : w.cell? ⟨g, i, none⟩ = some (.int .i64 (gi ms i)) := h.cell hi
  have cj : w.cell? ⟨g, j, none⟩ = some (.int .i64 (gi ms j)) := h.cell hj
  clear h
  generalize gi ms i = x at *
  generalize gi ms j = y at *
  go_enter Tryz.func267, Tryz.ntmps267
  go_wp2_with fail
  go_region
  go_wp2
  go_ret
  exact ⟨rfl, (Below.refl _ _).drew⟩
theorem qswap_any (g n cap i j : Nat) (ms : List Int) (w : World) (h : OwnK 3 0 g n cap ms w) (hi : i < n) (hj : j < n) (hn : n ≤ 1001) :
    Calls Tryz.prog 268 #[.slice (some ⟨g, 0, none⟩) n cap, .int .i64 i, .int .i64 j] w fun e w' => e = .returned (.tuple #[]) ∧ OwnK 3 0 g n cap (swi ms i j) w' ∧ Fb (at1 g) w w' := by
  have ci : w.cell? ⟨g, i, none⟩ = some (.int .i64 (gi ms i)) := h.cell hi
  have cj : w.cell? ⟨g, j, none⟩ = some (.int .i64 (gi ms j)) := h.cell hj
  have fi := h.frozen
  have h2 := h.set i (gi ms j)
  have c2 : (w.setCell ⟨g, i, none⟩ (.int .i64 (gi ms j))).cell? ⟨g, j, none⟩ = some (.int .i64 (gi (ms.set i (gi ms j)) j)) := h2.cell hj
  have f2 := h2.frozen
  have HS : Hid (OwnK 3 0 g n cap (swi ms i j) _) := h2.set j (gi ms i)
  have HF : Hid (∀ u v : Value, Fb (at1 g) w ((w.setCell ⟨g, i, none⟩ u).setCell ⟨g, j, none⟩ v)) := fun u v => (Fb.set (F := at1 g) (p := ⟨g, i, none⟩) rfl u).trans (Fb.set (F := at1 g) (p := ⟨g, j, none⟩) rfl v) fun x hx => .inl hx
  clear h h2
  generalize gi ms i = x at *
  generalize gi ms j = y at *
  generalize gi (ms.set i y) j = z at *
  go_enter Tryz.func268, Tryz.ntmps268
  go_wp2_with fail
  go_region
  go_wp2
  go_end0
  exact ⟨rfl, HS.out, (HF.out _ _).drew⟩

/-- The interface value. -/
abbrev hq (B o : Nat) : Value := .iface 159 (.pointer (some ⟨B, o, none⟩))
theorem Tryz.methI (name : String) (f : Nat) (h : (Tryz.prog.info? 159).map (fun i => (i.methods.find? (·.name == name)).map (fun m => (m.path, m.func))) = some (some (#[], some (f, false)))) :
    ∃ i m, Tryz.prog.info? 159 = some i ∧ i.methods.find? (·.name == name) = some m ∧ m.path = #[] ∧ m.func = some (f, false) := by
  cases hi : Tryz.prog.info? 159 with
  | none => rw [hi] at h; simp at h
  | some i =>
    rw [hi] at h
    simp only [Option.map_some, Option.some.injEq] at h
    cases hm : i.methods.find? (·.name == name) with
    | none => rw [hm] at h; simp at h
    | some m =>
      rw [hm] at h
      simp at h
      exact ⟨i, m, rfl, hm, h.1, h.2⟩
theorem wrapnilI (x : TypeId) (a : Addr) (s : String) (w : World) : (Builtin.ssaWrapNilChk_ #[x] x #[.pointer (some a), strVal "", strVal s]).run Tryz.prog w = .ok (.pointer (some a)) w := by kernel_rfl
theorem methI_val (name : String) (f : Nat) (h : (Tryz.prog.info? 159).map (fun i => (i.methods.find? (·.name == name)).map (fun m => (m.path, m.func))) = some (some (#[], some (f, false)))) (B o : Nat) (w : World) (v : Value) (hc : w.cell? ⟨B, o, none⟩ = some v) :
    (method 403 159 (.pointer (some ⟨B, o, none⟩)) name).run Tryz.prog w = .ok (f, v) w := by
  obtain ⟨i, m, hi, hm, hp, hf⟩ := Tryz.methI name f h
  unfold method
  simp [go_sem, typeInfo, hi, hm, hp, hf, follow, receiverAt, Place.get, wrapnilI, loadVar, hc]
theorem methI_less (B o : Nat) (w : World) (v : Value) (hc : w.cell? ⟨B, o, none⟩ = some v) : (method 403 159 (.pointer (some ⟨B, o, none⟩)) "Less").run Tryz.prog w = .ok (267, v) w := methI_val "Less" 267 (by kernel_rfl) B o w v hc
theorem methI_swap (B o : Nat) (w : World) (v : Value) (hc : w.cell? ⟨B, o, none⟩ = some v) : (method 403 159 (.pointer (some ⟨B, o, none⟩)) "Swap").run Tryz.prog w = .ok (268, v) w := methI_val "Swap" 268 (by kernel_rfl) B o w v hc
theorem methI_len (B o : Nat) (w : World) (v : Value) (hc : w.cell? ⟨B, o, none⟩ = some v) : (method 403 159 (.pointer (some ⟨B, o, none⟩)) "Len").run Tryz.prog w = .ok (158, v) w := methI_val "Len" 158 (by kernel_rfl) B o w v hc
theorem methI_push (a : Addr) (w : World) : (method 403 159 (.pointer (some a)) "Push").run Tryz.prog w = .ok (270, .pointer (some a)) w := by kernel_rfl
theorem methI_pop (a : Addr) (w : World) : (method 403 159 (.pointer (some a)) "Pop").run Tryz.prog w = .ok (269, .pointer (some a)) w := by kernel_rfl
theorem HqAt.less {B o g cap : Nat} {cs : Array Value} {Tb : TypeId} {ms : List Int} {W : World} (h : HqAt B o g cap cs Tb ms W) (i j : Nat) (hi : i < ms.length) (hj : j < ms.length) (hn : ms.length ≤ 1001) :
    Calls Tryz.prog 267 #[.slice (some ⟨g, 0, none⟩) ms.length cap, .int .i64 i, .int .i64 j] W fun e w' => e = .returned (.bool (decide (gi ms i < gi ms j))) ∧ HqAt B o g cap cs Tb ms w' ∧ Fb (at2 B g) W w' :=
  (qless_any g ms.length cap i j ms W h.own hi hj hn).mono fun e w' ⟨h1, h2⟩ => ⟨h1, h.below h2, Fb.of h2⟩
theorem HqAt.swap {B o g cap : Nat} {cs : Array Value} {Tb : TypeId} {ms : List Int} {W : World} (h : HqAt B o g cap cs Tb ms W) (i j : Nat) (hi : i < ms.length) (hj : j < ms.length) (hn : ms.length ≤ 1001) :
    Calls Tryz.prog 268 #[.slice (some ⟨g, 0, none⟩) ms.length cap, .int .i64 i, .int .i64 j] W fun e w' => e = .returned (.tuple #[]) ∧ HqAt B o g cap cs Tb (swi ms i j) w' ∧ Fb (at2 B g) W w' :=
  (qswap_any g ms.length cap i j ms W h.own hi hj hn).mono fun e w' ⟨h1, h2, h3⟩ => ⟨h1, ⟨h3.one h.var h.ne, by rw [swi_len]; exact h.hdr, by rw [swi_len]; exact h2, h.ne⟩, h3.mono fun x hx => .inr hx⟩
end Go.Proofs.YtjgggialnegddaaGreat
namespace Go.Proofs.YtjgggialnegddaaGreat
open Go.RowKit
set_option linter.unusedVariables false
set_option maxRecDepth 1000000

set_option maxHeartbeats 1000000 in
theorem qup_any (B o g cap : Nat) (cs : Array Value) (Tb : TypeId) (ms : List Int) (j : Nat) (w : World) (h : HqAt B o g cap cs Tb ms w) (hj : j < ms.length) (hn : ms.length ≤ 1001) (hU : UpI ms ms.length j) :
    Calls Tryz.prog 117 #[hq B o, .int .i64 j] w fun e w' => e = .returned (.tuple #[]) ∧ (∃ ns, ns.Perm ms ∧ HeapI ns ns.length ∧ HqAt B o g cap cs Tb ns w') ∧ Fb (at2 B g) w w' := by
  have H := hid h
  have HU := hid hU
  clear h hU
  go_enter Tryz.func117, Tryz.ntmps117
  go_wp2_with fail
  go_loopw [1] (fun i W => ∃ (k : Nat) (ns : List Int), i = .int .i64 k ∧ k < ns.length ∧ Hid (ns.Perm ms) ∧ Hid (UpI ns ns.length k) ∧ Hid (HqAt B o g cap cs Tb ns W) ∧ Hid (Fb (at2 B g) w W)) (fun i _ => (intOf i).toNat)
  case atStart => exact ⟨j, ms, rfl, hj, List.Perm.refl _, HU, H, Fb.refl _ _⟩
  case round =>
    obtain ⟨k, ns, rfl, hk, HP, HUk, HH, HB⟩ := hrel
    have hl : ns.length ≤ 1001 := by have := HP.out.length_eq; omega
    by_cases h0 : k = 0
    · subst h0
      have HD : Hid (HeapI ns ns.length) := HUk.out.done (fun h => absurd h (by omega))
      go_wp2
      go_end0
      exact ⟨rfl, ⟨ns, HP.out, HD.out, HH.out⟩, HB.out⟩
    · obtain ⟨p, hp⟩ : ∃ p : Nat, ((k : Int) - 1) / 2 = (p : Int) := ⟨(k - 1) / 2, by omega⟩
      have hp' : (k - 1) / 2 = p := by omega
      have hne : ¬ (p : Int) = (k : Int) := by omega
      have hne' : ((p : Int) == (k : Int)) = false := by simpa using hne
      have hml := methI_less B o wr _ HH.out.cell
      have hL := HH.out.less k p hk (by omega) hl
      by_cases hb : ltI (gi ns k) (gi ns p)
      · have hbb : decide (gi ns k < gi ns p) = true := decide_eq_true hb
        have HS : Hid (UpI (swi ns p k) (swi ns p k).length p) := by
          have := HUk.out.step (by omega) hk (Nat.le_refl _) (by rw [hp']; exact hb)
          rw [hp'] at this
          rw [swi_len]
          exact this
        have HPS : Hid ((swi ns p k).Perm ms) := (swi_perm (by omega) hk).trans HP.out
        rw [hbb] at hL
        clear hb hbb HH
        go_wp2_with fail
        refine hL.mono ?_
        rintro e w2 ⟨rfl, hH2, hB2⟩
        have hms := methI_swap B o w2 _ hH2.cell
        have hS := hH2.swap p k (by omega) hk hl
        have HB2 := hid (HB.out.tr hB2)
        clear hH2 hB2 hL hml
        go_wp2_with fail
        refine hS.mono ?_
        rintro e w3 ⟨rfl, hH3, hB3⟩
        have HH3 := hid hH3
        have HB3 := hid (HB2.out.tr hB3)
        clear hH3 hB3 hS hms
        go_wp2_with fail
        go_round
        case rel => exact ⟨p, swi ns p k, rfl, by rw [swi_len]; omega, HPS, HS, HH3, HB3⟩
        case measure => simp [intOf]; omega
      · have hbb : decide (gi ns k < gi ns p) = false := decide_eq_false hb
        have HD : Hid (HeapI ns ns.length) := HUk.out.done (fun _ => by rw [hp']; exact hb)
        rw [hbb] at hL
        clear hb hbb HH
        go_wp2_with fail
        refine hL.mono ?_
        rintro e w2 ⟨rfl, hH2, hB2⟩
        have HH2 := hid hH2
        have HB2 := hid (HB.out.tr hB2)
        clear hH2 hB2 hL hml
        go_wp2
        go_end0
        exact ⟨rfl, ⟨ns, HP.out, HD.out, HH2.out⟩, HB2.out⟩
end Go.Proofs.YtjgggialnegddaaGreat
namespace Go.Proofs.YtjgggialnegddaaGreat
open Go.RowKit
set_option linter.unusedVariables false
set_option maxRecDepth 1000000

/-- A message. -/
structure Ms where
  kind : Int
  st : Int
  se : Int
  att : Int
  inc : Int
  n : Int
  cnt : Int
  why : Int
  job : Jb
  la : Option Addr
  ll : Nat
  lc : Nat
  li : List Int
/-- Its cells. -/
def MsV (m : Ms) : Array Value := #[.int .i64 m.kind, .int .u64 m.st, .int .u64 m.se, .int .u64 m.att, .int .u64 m.inc, .int .u64 m.n, .int .u64 m.cnt, .int .i64 m.why, .int .u64 m.job.seed, .slice m.job.ap m.job.lp m.job.cp, .int .i64 m.job.most, .slice m.la m.ll m.lc]
/-- What its lists read as. -/
structure MsIn (w : World) (m : Ms) : Prop where
  job : JbIn w m.job
  list : Reads .i64 w m.la m.ll m.lc m.li
theorem MsIn.below {w w' : World} {m : Ms} (h : MsIn w m) (hb : Below w.heap.size w w') : MsIn w' m := ⟨Reads.below h.job hb, h.list.below hb⟩
def isU (x : Int) : Prop := 0 ≤ x ∧ x ≤ 18446744073709551615
def isI (x : Int) : Prop := -9223372036854775808 ≤ x ∧ x ≤ 9223372036854775807
/-- The bounds of its numbers. -/
structure MsOk (m : Ms) : Prop where
  kind : isI m.kind
  st : isU m.st
  se : isU m.se
  att : isU m.att
  inc : isU m.inc
  n : isU m.n
  cnt : isU m.cnt
  why : isI m.why
  seed : isU m.job.seed
  most : isI m.job.most
/-- A setting. -/
structure Sg where
  c : Cf
  q : Int
  b : Int
  pg : Int
  sz : Int
  ch : Int
def SgV (s : Sg) : Array Value := #[.int .u64 s.c.seed, .int .i64 s.c.vocab, .int .i64 s.c.dim, .int .i64 s.c.layers, .int .i64 s.c.top, .int .i64 s.c.heat, .int .i64 s.q, .int .i64 s.b, .int .i64 s.pg, .int .i64 s.sz, .int .i64 s.ch]
structure SgOk (s : Sg) : Prop where
  q : isI s.q
  b : isI s.b
  pg : isI s.pg
  sz : isI s.sz
  ch : isI s.ch
/-- A step. -/
structure Sp where
  kd : Int
  now : Bool
  m : Ms
def SpV (s : Sp) : Array Value := #[.int .u8 s.kd, .bool s.now, .int .i64 s.m.kind, .int .u64 s.m.st, .int .u64 s.m.se, .int .u64 s.m.att, .int .u64 s.m.inc, .int .u64 s.m.n, .int .u64 s.m.cnt, .int .i64 s.m.why, .int .u64 s.m.job.seed, .slice s.m.job.ap s.m.job.lp s.m.job.cp, .int .i64 s.m.job.most, .slice s.m.la s.m.ll s.m.lc]
structure SpOk (w : World) (s : Sp) : Prop where
  kd : 0 ≤ s.kd ∧ s.kd ≤ 255
  inn : MsIn w s.m
  ok : MsOk s.m
theorem SpOk.below {w w' : World} {s : Sp} (h : SpOk w s) (hb : Below w.heap.size w w') : SpOk w' s := ⟨h.kd, h.inn.below hb, h.ok⟩
theorem Tryz.cellsMs : Tryz.prog.cellsOf 45 = 12 := by kernel_rfl
theorem Tryz.cellsSg : Tryz.prog.cellsOf 26 = 11 := by kernel_rfl
theorem Tryz.cellsSp : Tryz.prog.cellsOf 47 = 14 := by kernel_rfl
theorem Tryz.cellsCf : Tryz.prog.cellsOf 24 = 6 := by kernel_rfl
theorem Tryz.cellsU8 : Tryz.prog.cellsOf 5 = 1 := by kernel_rfl
theorem Tryz.cellsBo : Tryz.prog.cellsOf 4 = 1 := by kernel_rfl
theorem arrayN11 {α : Type} {cs : Array α} (h : cs.size = 11) : ∃ c0 c1 c2 c3 c4 c5 c6 c7 c8 c9 c10, cs = #[c0, c1, c2, c3, c4, c5, c6, c7, c8, c9, c10] := by
  obtain ⟨l⟩ := cs
  match l, h with
  | [c0, c1, c2, c3, c4, c5, c6, c7, c8, c9, c10], _ => exact ⟨c0, c1, c2, c3, c4, c5, c6, c7, c8, c9, c10, rfl⟩
theorem listN11 {α : Type} {cs : List α} (h : cs.length = 11) : ∃ c0 c1 c2 c3 c4 c5 c6 c7 c8 c9 c10, cs = [c0, c1, c2, c3, c4, c5, c6, c7, c8, c9, c10] := by
  match cs, h with
  | [c0, c1, c2, c3, c4, c5, c6, c7, c8, c9, c10], _ => exact ⟨c0, c1, c2, c3, c4, c5, c6, c7, c8, c9, c10, rfl⟩
theorem arrayN12 {α : Type} {cs : Array α} (h : cs.size = 12) : ∃ c0 c1 c2 c3 c4 c5 c6 c7 c8 c9 c10 c11, cs = #[c0, c1, c2, c3, c4, c5, c6, c7, c8, c9, c10, c11] := by
  obtain ⟨l⟩ := cs
  match l, h with
  | [c0, c1, c2, c3, c4, c5, c6, c7, c8, c9, c10, c11], _ => exact ⟨c0, c1, c2, c3, c4, c5, c6, c7, c8, c9, c10, c11, rfl⟩
theorem listN12 {α : Type} {cs : List α} (h : cs.length = 12) : ∃ c0 c1 c2 c3 c4 c5 c6 c7 c8 c9 c10 c11, cs = [c0, c1, c2, c3, c4, c5, c6, c7, c8, c9, c10, c11] := by
  match cs, h with
  | [c0, c1, c2, c3, c4, c5, c6, c7, c8, c9, c10, c11], _ => exact ⟨c0, c1, c2, c3, c4, c5, c6, c7, c8, c9, c10, c11, rfl⟩
theorem arrayN14 {α : Type} {cs : Array α} (h : cs.size = 14) : ∃ c0 c1 c2 c3 c4 c5 c6 c7 c8 c9 c10 c11 c12 c13, cs = #[c0, c1, c2, c3, c4, c5, c6, c7, c8, c9, c10, c11, c12, c13] := by
  obtain ⟨l⟩ := cs
  match l, h with
  | [c0, c1, c2, c3, c4, c5, c6, c7, c8, c9, c10, c11, c12, c13], _ => exact ⟨c0, c1, c2, c3, c4, c5, c6, c7, c8, c9, c10, c11, c12, c13, rfl⟩
theorem listN14 {α : Type} {cs : List α} (h : cs.length = 14) : ∃ c0 c1 c2 c3 c4 c5 c6 c7 c8 c9 c10 c11 c12 c13, cs = [c0, c1, c2, c3, c4, c5, c6, c7, c8, c9, c10, c11, c12, c13] := by
  match cs, h with
  | [c0, c1, c2, c3, c4, c5, c6, c7, c8, c9, c10, c11, c12, c13], _ => exact ⟨c0, c1, c2, c3, c4, c5, c6, c7, c8, c9, c10, c11, c12, c13, rfl⟩
theorem arrayN3 {α : Type} {cs : Array α} (h : cs.size = 3) : ∃ c0 c1 c2, cs = #[c0, c1, c2] := by
  obtain ⟨l⟩ := cs
  match l, h with
  | [c0, c1, c2], _ => exact ⟨c0, c1, c2, rfl⟩
theorem listN3 {α : Type} {cs : List α} (h : cs.length = 3) : ∃ c0 c1 c2, cs = [c0, c1, c2] := by
  match cs, h with
  | [c0, c1, c2], _ => exact ⟨c0, c1, c2, rfl⟩
/-- The slice reads as these structs, k cells each. -/
structure Lst {α : Type} (w : World) (a : Option Addr) (len cap k : Nat) (xs : List α) (V : α → Array Value) (I : α → Prop) : Prop where
  size : xs.length = len
  room : len ≤ cap
  most : cap ≤ 9223372036854775807
  bare : a = none → len = 0 ∧ cap = 0
  cell : ∀ i (hi : i < xs.length), ∃ b off, a = some ⟨b, off, none⟩ ∧ ∀ j, j < k → w.cell? ⟨b, off + i * k + j, none⟩ = (V xs[i])[j]?
  inn : ∀ i (hi : i < xs.length), I xs[i]
section Args
open Go.ChangeShapes Go.WideShapes Go.ChangeAt
variable {H : Type} {enc : TypeId × Value → H} {W : World}
theorem eu64_at {fuel : Nat} {c : Value} {x : DataW H × List MemPlace} (h : DataW.trod enc Tryz.prog W 0 (fun _ => true) true fuel 22 [c] = some x) : ∃ n : Int, c = .int .u64 n ∧ isU n := by
  obtain ⟨n, hc, _, hw⟩ := DataW.trod_int Tryz.underlying22 h
  simp at hc
  have := bounds_u64 hw
  exact ⟨n, hc, by omega, by omega⟩
theorem eint_at {fuel : Nat} {c : Value} {x : DataW H × List MemPlace} (h : DataW.trod enc Tryz.prog W 0 (fun _ => true) true fuel 3 [c] = some x) : ∃ n : Int, c = .int .i64 n ∧ isI n := by
  obtain ⟨n, hc, _, hw⟩ := DataW.trod_int Tryz.underlying3 h
  simp at hc
  have := bounds_i64 hw
  exact ⟨n, hc, by omega, by omega⟩
theorem eu8_at {fuel : Nat} {c : Value} {x : DataW H × List MemPlace} (h : DataW.trod enc Tryz.prog W 0 (fun _ => true) true fuel 5 [c] = some x) : ∃ n : Int, c = .int .u8 n ∧ 0 ≤ n ∧ n ≤ 255 := by
  obtain ⟨n, hc, _, hw⟩ := DataW.trod_int Tryz.underlying5 h
  simp at hc
  have := bounds_u8 hw
  exact ⟨n, hc, by omega, by omega⟩
theorem ebool_at {fuel : Nat} {c : Value} {x : DataW H × List MemPlace} (h : DataW.trod enc Tryz.prog W 0 (fun _ => true) true fuel 4 [c] = some x) : ∃ b : Bool, c = .bool b := by
  obtain ⟨b, hc, _⟩ := DataW.trod_bool Tryz.underlying4 h
  simp at hc
  exact ⟨b, hc⟩
theorem job_at {fuel : Nat} {c0 c1 c2 : Value} {x : DataW H × List MemPlace} (hf : DataW.trod enc Tryz.prog W 0 (fun _ => true) true fuel 43 [c0, c1, c2] = some x) :
    ∃ j : Jb, [c0, c1, c2] = (JbV j).toList ∧ JbIn W j ∧ isU j.seed ∧ isI j.most := by
  obtain ⟨xs, n, _, _, _, hl, hF⟩ := DataW.trod_struct Tryz.underlying43 hf
  have hl : xs.length = 3 := hl
  obtain ⟨y0, e0⟩ := at_some hl (i := 0) (by omega)
  obtain ⟨y1, e1⟩ := at_some hl (i := 1) (by omega)
  obtain ⟨y2, e2⟩ := at_some hl (i := 2) (by omega)
  have g0 : DataW.trod enc Tryz.prog W 0 (fun _ => true) true n 22 [c0] = some y0 := by
    have g := hF 0 _ rfl
    change DataW.trod enc Tryz.prog W 0 (fun _ => true) true n 22 (List.take (Tryz.prog.cellsOf 22) (List.drop 0 [c0, c1, c2])) = xs[0]? at g
    rw [Tryz.cellsU, e0] at g
    exact g
  have g1 : DataW.trod enc Tryz.prog W 0 (fun _ => true) true n 41 [c1] = some y1 := by
    have g := hF 1 _ rfl
    change DataW.trod enc Tryz.prog W 0 (fun _ => true) true n 41 (List.take (Tryz.prog.cellsOf 41) (List.drop 1 [c0, c1, c2])) = xs[1]? at g
    rw [Tryz.cellsNs, e1] at g
    exact g
  have g2 : DataW.trod enc Tryz.prog W 0 (fun _ => true) true n 3 [c2] = some y2 := by
    have g := hF 2 _ rfl
    change DataW.trod enc Tryz.prog W 0 (fun _ => true) true n 3 (List.take (Tryz.prog.cellsOf 3) (List.drop 2 [c0, c1, c2])) = xs[2]? at g
    rw [Tryz.cellsI, e2] at g
    exact g
  clear hF
  obtain ⟨sd, rfl, sdb⟩ := eu64_at g0
  obtain ⟨ap, lp, cp, ts, rfl, rp⟩ := nums_at g1
  obtain ⟨mo, rfl, mob⟩ := eint_at g2
  exact ⟨⟨sd, ap, lp, cp, ts, mo⟩, rfl, rp, sdb, mob⟩
theorem confE_at {fuel : Nat} {c0 c1 c2 c3 c4 c5 : Value} {x : DataW H × List MemPlace} (hf : DataW.trod enc Tryz.prog W 0 (fun _ => true) true fuel 24 [c0, c1, c2, c3, c4, c5] = some x) :
    ∃ c : Cf, [c0, c1, c2, c3, c4, c5] = (CfV c).toList := by
  obtain ⟨xs, n, _, _, _, hl, hF⟩ := DataW.trod_struct Tryz.underlying24 hf
  have hl : xs.length = 6 := hl
  obtain ⟨y0, e0⟩ := at_some hl (i := 0) (by omega)
  obtain ⟨y1, e1⟩ := at_some hl (i := 1) (by omega)
  obtain ⟨y2, e2⟩ := at_some hl (i := 2) (by omega)
  obtain ⟨y3, e3⟩ := at_some hl (i := 3) (by omega)
  obtain ⟨y4, e4⟩ := at_some hl (i := 4) (by omega)
  obtain ⟨y5, e5⟩ := at_some hl (i := 5) (by omega)
  have g0 : DataW.trod enc Tryz.prog W 0 (fun _ => true) true n 22 [c0] = some y0 := by
    have g := hF 0 _ rfl
    change DataW.trod enc Tryz.prog W 0 (fun _ => true) true n 22 (List.take (Tryz.prog.cellsOf 22) (List.drop 0 [c0, c1, c2, c3, c4, c5])) = xs[0]? at g
    rw [Tryz.cellsU, e0] at g
    exact g
  have g1 : DataW.trod enc Tryz.prog W 0 (fun _ => true) true n 3 [c1] = some y1 := by
    have g := hF 1 _ rfl
    change DataW.trod enc Tryz.prog W 0 (fun _ => true) true n 3 (List.take (Tryz.prog.cellsOf 3) (List.drop 1 [c0, c1, c2, c3, c4, c5])) = xs[1]? at g
    rw [Tryz.cellsI, e1] at g
    exact g
  have g2 : DataW.trod enc Tryz.prog W 0 (fun _ => true) true n 3 [c2] = some y2 := by
    have g := hF 2 _ rfl
    change DataW.trod enc Tryz.prog W 0 (fun _ => true) true n 3 (List.take (Tryz.prog.cellsOf 3) (List.drop 2 [c0, c1, c2, c3, c4, c5])) = xs[2]? at g
    rw [Tryz.cellsI, e2] at g
    exact g
  have g3 : DataW.trod enc Tryz.prog W 0 (fun _ => true) true n 3 [c3] = some y3 := by
    have g := hF 3 _ rfl
    change DataW.trod enc Tryz.prog W 0 (fun _ => true) true n 3 (List.take (Tryz.prog.cellsOf 3) (List.drop 3 [c0, c1, c2, c3, c4, c5])) = xs[3]? at g
    rw [Tryz.cellsI, e3] at g
    exact g
  have g4 : DataW.trod enc Tryz.prog W 0 (fun _ => true) true n 3 [c4] = some y4 := by
    have g := hF 4 _ rfl
    change DataW.trod enc Tryz.prog W 0 (fun _ => true) true n 3 (List.take (Tryz.prog.cellsOf 3) (List.drop 4 [c0, c1, c2, c3, c4, c5])) = xs[4]? at g
    rw [Tryz.cellsI, e4] at g
    exact g
  have g5 : DataW.trod enc Tryz.prog W 0 (fun _ => true) true n 3 [c5] = some y5 := by
    have g := hF 5 _ rfl
    change DataW.trod enc Tryz.prog W 0 (fun _ => true) true n 3 (List.take (Tryz.prog.cellsOf 3) (List.drop 5 [c0, c1, c2, c3, c4, c5])) = xs[5]? at g
    rw [Tryz.cellsI, e5] at g
    exact g
  clear hF
  obtain ⟨a0, rfl, a0b⟩ := eu64_at g0
  obtain ⟨a1, rfl, a1b⟩ := eint_at g1
  obtain ⟨a2, rfl, a2b⟩ := eint_at g2
  obtain ⟨a3, rfl, a3b⟩ := eint_at g3
  obtain ⟨a4, rfl, a4b⟩ := eint_at g4
  obtain ⟨a5, rfl, a5b⟩ := eint_at g5
  exact ⟨⟨a0, a1, a2, a3, a4, a5⟩, rfl⟩
theorem ms_at {fuel : Nat} {c0 c1 c2 c3 c4 c5 c6 c7 c8 c9 c10 c11 : Value} {x : DataW H × List MemPlace} (hf : DataW.trod enc Tryz.prog W 0 (fun _ => true) true fuel 45 [c0, c1, c2, c3, c4, c5, c6, c7, c8, c9, c10, c11] = some x) :
    ∃ m : Ms, [c0, c1, c2, c3, c4, c5, c6, c7, c8, c9, c10, c11] = (MsV m).toList ∧ MsIn W m ∧ MsOk m := by
  obtain ⟨xs, n, _, _, _, hl, hF⟩ := DataW.trod_struct Tryz.underlying45 hf
  have hl : xs.length = 10 := hl
  obtain ⟨y0, e0⟩ := at_some hl (i := 0) (by omega)
  obtain ⟨y1, e1⟩ := at_some hl (i := 1) (by omega)
  obtain ⟨y2, e2⟩ := at_some hl (i := 2) (by omega)
  obtain ⟨y3, e3⟩ := at_some hl (i := 3) (by omega)
  obtain ⟨y4, e4⟩ := at_some hl (i := 4) (by omega)
  obtain ⟨y5, e5⟩ := at_some hl (i := 5) (by omega)
  obtain ⟨y6, e6⟩ := at_some hl (i := 6) (by omega)
  obtain ⟨y7, e7⟩ := at_some hl (i := 7) (by omega)
  obtain ⟨y8, e8⟩ := at_some hl (i := 8) (by omega)
  obtain ⟨y9, e9⟩ := at_some hl (i := 9) (by omega)
  have g0 : DataW.trod enc Tryz.prog W 0 (fun _ => true) true n 3 [c0] = some y0 := by
    have g := hF 0 _ rfl
    change DataW.trod enc Tryz.prog W 0 (fun _ => true) true n 3 (List.take (Tryz.prog.cellsOf 3) (List.drop 0 [c0, c1, c2, c3, c4, c5, c6, c7, c8, c9, c10, c11])) = xs[0]? at g
    rw [Tryz.cellsI, e0] at g
    exact g
  have g1 : DataW.trod enc Tryz.prog W 0 (fun _ => true) true n 22 [c1] = some y1 := by
    have g := hF 1 _ rfl
    change DataW.trod enc Tryz.prog W 0 (fun _ => true) true n 22 (List.take (Tryz.prog.cellsOf 22) (List.drop 1 [c0, c1, c2, c3, c4, c5, c6, c7, c8, c9, c10, c11])) = xs[1]? at g
    rw [Tryz.cellsU, e1] at g
    exact g
  have g2 : DataW.trod enc Tryz.prog W 0 (fun _ => true) true n 22 [c2] = some y2 := by
    have g := hF 2 _ rfl
    change DataW.trod enc Tryz.prog W 0 (fun _ => true) true n 22 (List.take (Tryz.prog.cellsOf 22) (List.drop 2 [c0, c1, c2, c3, c4, c5, c6, c7, c8, c9, c10, c11])) = xs[2]? at g
    rw [Tryz.cellsU, e2] at g
    exact g
  have g3 : DataW.trod enc Tryz.prog W 0 (fun _ => true) true n 22 [c3] = some y3 := by
    have g := hF 3 _ rfl
    change DataW.trod enc Tryz.prog W 0 (fun _ => true) true n 22 (List.take (Tryz.prog.cellsOf 22) (List.drop 3 [c0, c1, c2, c3, c4, c5, c6, c7, c8, c9, c10, c11])) = xs[3]? at g
    rw [Tryz.cellsU, e3] at g
    exact g
  have g4 : DataW.trod enc Tryz.prog W 0 (fun _ => true) true n 22 [c4] = some y4 := by
    have g := hF 4 _ rfl
    change DataW.trod enc Tryz.prog W 0 (fun _ => true) true n 22 (List.take (Tryz.prog.cellsOf 22) (List.drop 4 [c0, c1, c2, c3, c4, c5, c6, c7, c8, c9, c10, c11])) = xs[4]? at g
    rw [Tryz.cellsU, e4] at g
    exact g
  have g5 : DataW.trod enc Tryz.prog W 0 (fun _ => true) true n 22 [c5] = some y5 := by
    have g := hF 5 _ rfl
    change DataW.trod enc Tryz.prog W 0 (fun _ => true) true n 22 (List.take (Tryz.prog.cellsOf 22) (List.drop 5 [c0, c1, c2, c3, c4, c5, c6, c7, c8, c9, c10, c11])) = xs[5]? at g
    rw [Tryz.cellsU, e5] at g
    exact g
  have g6 : DataW.trod enc Tryz.prog W 0 (fun _ => true) true n 22 [c6] = some y6 := by
    have g := hF 6 _ rfl
    change DataW.trod enc Tryz.prog W 0 (fun _ => true) true n 22 (List.take (Tryz.prog.cellsOf 22) (List.drop 6 [c0, c1, c2, c3, c4, c5, c6, c7, c8, c9, c10, c11])) = xs[6]? at g
    rw [Tryz.cellsU, e6] at g
    exact g
  have g7 : DataW.trod enc Tryz.prog W 0 (fun _ => true) true n 3 [c7] = some y7 := by
    have g := hF 7 _ rfl
    change DataW.trod enc Tryz.prog W 0 (fun _ => true) true n 3 (List.take (Tryz.prog.cellsOf 3) (List.drop 7 [c0, c1, c2, c3, c4, c5, c6, c7, c8, c9, c10, c11])) = xs[7]? at g
    rw [Tryz.cellsI, e7] at g
    exact g
  have g8 : DataW.trod enc Tryz.prog W 0 (fun _ => true) true n 43 [c8, c9, c10] = some y8 := by
    have g := hF 8 _ rfl
    change DataW.trod enc Tryz.prog W 0 (fun _ => true) true n 43 (List.take (Tryz.prog.cellsOf 43) (List.drop 8 [c0, c1, c2, c3, c4, c5, c6, c7, c8, c9, c10, c11])) = xs[8]? at g
    rw [Tryz.cellsJb, e8] at g
    exact g
  have g9 : DataW.trod enc Tryz.prog W 0 (fun _ => true) true n 41 [c11] = some y9 := by
    have g := hF 9 _ rfl
    change DataW.trod enc Tryz.prog W 0 (fun _ => true) true n 41 (List.take (Tryz.prog.cellsOf 41) (List.drop 11 [c0, c1, c2, c3, c4, c5, c6, c7, c8, c9, c10, c11])) = xs[9]? at g
    rw [Tryz.cellsNs, e9] at g
    exact g
  clear hF
  obtain ⟨kind, rfl, kindb⟩ := eint_at g0
  obtain ⟨st, rfl, stb⟩ := eu64_at g1
  obtain ⟨se, rfl, seb⟩ := eu64_at g2
  obtain ⟨ate, rfl, ateb⟩ := eu64_at g3
  obtain ⟨inc, rfl, incb⟩ := eu64_at g4
  obtain ⟨nn, rfl, nnb⟩ := eu64_at g5
  obtain ⟨cnt, rfl, cntb⟩ := eu64_at g6
  obtain ⟨why, rfl, whyb⟩ := eint_at g7
  obtain ⟨j, ej, hj, jb, jm⟩ := job_at g8
  obtain ⟨la, ll, lc, li, rfl, rl⟩ := nums_at g9
  simp [JbV] at ej
  obtain ⟨rfl, rfl, rfl⟩ := ej
  exact ⟨⟨kind, st, se, ate, inc, nn, cnt, why, j, la, ll, lc, li⟩, rfl, ⟨hj, rl⟩, ⟨kindb, stb, seb, ateb, incb, nnb, cntb, whyb, jb, jm⟩⟩
theorem sg_at {fuel : Nat} {c0 c1 c2 c3 c4 c5 c6 c7 c8 c9 c10 : Value} {x : DataW H × List MemPlace} (hf : DataW.trod enc Tryz.prog W 0 (fun _ => true) true fuel 26 [c0, c1, c2, c3, c4, c5, c6, c7, c8, c9, c10] = some x) :
    ∃ s : Sg, [c0, c1, c2, c3, c4, c5, c6, c7, c8, c9, c10] = (SgV s).toList ∧ SgOk s := by
  obtain ⟨xs, n, _, _, _, hl, hF⟩ := DataW.trod_struct Tryz.underlying26 hf
  have hl : xs.length = 6 := hl
  obtain ⟨y0, e0⟩ := at_some hl (i := 0) (by omega)
  obtain ⟨y1, e1⟩ := at_some hl (i := 1) (by omega)
  obtain ⟨y2, e2⟩ := at_some hl (i := 2) (by omega)
  obtain ⟨y3, e3⟩ := at_some hl (i := 3) (by omega)
  obtain ⟨y4, e4⟩ := at_some hl (i := 4) (by omega)
  obtain ⟨y5, e5⟩ := at_some hl (i := 5) (by omega)
  have g0 : DataW.trod enc Tryz.prog W 0 (fun _ => true) true n 24 [c0, c1, c2, c3, c4, c5] = some y0 := by
    have g := hF 0 _ rfl
    change DataW.trod enc Tryz.prog W 0 (fun _ => true) true n 24 (List.take (Tryz.prog.cellsOf 24) (List.drop 0 [c0, c1, c2, c3, c4, c5, c6, c7, c8, c9, c10])) = xs[0]? at g
    rw [Tryz.cellsCf, e0] at g
    exact g
  have g1 : DataW.trod enc Tryz.prog W 0 (fun _ => true) true n 3 [c6] = some y1 := by
    have g := hF 1 _ rfl
    change DataW.trod enc Tryz.prog W 0 (fun _ => true) true n 3 (List.take (Tryz.prog.cellsOf 3) (List.drop 6 [c0, c1, c2, c3, c4, c5, c6, c7, c8, c9, c10])) = xs[1]? at g
    rw [Tryz.cellsI, e1] at g
    exact g
  have g2 : DataW.trod enc Tryz.prog W 0 (fun _ => true) true n 3 [c7] = some y2 := by
    have g := hF 2 _ rfl
    change DataW.trod enc Tryz.prog W 0 (fun _ => true) true n 3 (List.take (Tryz.prog.cellsOf 3) (List.drop 7 [c0, c1, c2, c3, c4, c5, c6, c7, c8, c9, c10])) = xs[2]? at g
    rw [Tryz.cellsI, e2] at g
    exact g
  have g3 : DataW.trod enc Tryz.prog W 0 (fun _ => true) true n 3 [c8] = some y3 := by
    have g := hF 3 _ rfl
    change DataW.trod enc Tryz.prog W 0 (fun _ => true) true n 3 (List.take (Tryz.prog.cellsOf 3) (List.drop 8 [c0, c1, c2, c3, c4, c5, c6, c7, c8, c9, c10])) = xs[3]? at g
    rw [Tryz.cellsI, e3] at g
    exact g
  have g4 : DataW.trod enc Tryz.prog W 0 (fun _ => true) true n 3 [c9] = some y4 := by
    have g := hF 4 _ rfl
    change DataW.trod enc Tryz.prog W 0 (fun _ => true) true n 3 (List.take (Tryz.prog.cellsOf 3) (List.drop 9 [c0, c1, c2, c3, c4, c5, c6, c7, c8, c9, c10])) = xs[4]? at g
    rw [Tryz.cellsI, e4] at g
    exact g
  have g5 : DataW.trod enc Tryz.prog W 0 (fun _ => true) true n 3 [c10] = some y5 := by
    have g := hF 5 _ rfl
    change DataW.trod enc Tryz.prog W 0 (fun _ => true) true n 3 (List.take (Tryz.prog.cellsOf 3) (List.drop 10 [c0, c1, c2, c3, c4, c5, c6, c7, c8, c9, c10])) = xs[5]? at g
    rw [Tryz.cellsI, e5] at g
    exact g
  clear hF
  obtain ⟨cf, ec⟩ := confE_at g0
  obtain ⟨q, rfl, qb⟩ := eint_at g1
  obtain ⟨b, rfl, bb⟩ := eint_at g2
  obtain ⟨pg, rfl, pgb⟩ := eint_at g3
  obtain ⟨sz, rfl, szb⟩ := eint_at g4
  obtain ⟨ch, rfl, chb⟩ := eint_at g5
  simp [CfV] at ec
  obtain ⟨rfl, rfl, rfl, rfl, rfl, rfl⟩ := ec
  exact ⟨⟨cf, q, b, pg, sz, ch⟩, rfl, ⟨qb, bb, pgb, szb, chb⟩⟩
theorem sp_at {fuel : Nat} {c0 c1 c2 c3 c4 c5 c6 c7 c8 c9 c10 c11 c12 c13 : Value} {x : DataW H × List MemPlace} (hf : DataW.trod enc Tryz.prog W 0 (fun _ => true) true fuel 47 [c0, c1, c2, c3, c4, c5, c6, c7, c8, c9, c10, c11, c12, c13] = some x) :
    ∃ s : Sp, [c0, c1, c2, c3, c4, c5, c6, c7, c8, c9, c10, c11, c12, c13] = (SpV s).toList ∧ SpOk W s := by
  obtain ⟨xs, n, _, _, _, hl, hF⟩ := DataW.trod_struct Tryz.underlying47 hf
  have hl : xs.length = 3 := hl
  obtain ⟨y0, e0⟩ := at_some hl (i := 0) (by omega)
  obtain ⟨y1, e1⟩ := at_some hl (i := 1) (by omega)
  obtain ⟨y2, e2⟩ := at_some hl (i := 2) (by omega)
  have g0 : DataW.trod enc Tryz.prog W 0 (fun _ => true) true n 5 [c0] = some y0 := by
    have g := hF 0 _ rfl
    change DataW.trod enc Tryz.prog W 0 (fun _ => true) true n 5 (List.take (Tryz.prog.cellsOf 5) (List.drop 0 [c0, c1, c2, c3, c4, c5, c6, c7, c8, c9, c10, c11, c12, c13])) = xs[0]? at g
    rw [Tryz.cellsU8, e0] at g
    exact g
  have g1 : DataW.trod enc Tryz.prog W 0 (fun _ => true) true n 4 [c1] = some y1 := by
    have g := hF 1 _ rfl
    change DataW.trod enc Tryz.prog W 0 (fun _ => true) true n 4 (List.take (Tryz.prog.cellsOf 4) (List.drop 1 [c0, c1, c2, c3, c4, c5, c6, c7, c8, c9, c10, c11, c12, c13])) = xs[1]? at g
    rw [Tryz.cellsBo, e1] at g
    exact g
  have g2 : DataW.trod enc Tryz.prog W 0 (fun _ => true) true n 45 [c2, c3, c4, c5, c6, c7, c8, c9, c10, c11, c12, c13] = some y2 := by
    have g := hF 2 _ rfl
    change DataW.trod enc Tryz.prog W 0 (fun _ => true) true n 45 (List.take (Tryz.prog.cellsOf 45) (List.drop 2 [c0, c1, c2, c3, c4, c5, c6, c7, c8, c9, c10, c11, c12, c13])) = xs[2]? at g
    rw [Tryz.cellsMs, e2] at g
    exact g
  clear hF
  obtain ⟨kd, rfl, kdb⟩ := eu8_at g0
  obtain ⟨nw, rfl⟩ := ebool_at g1
  obtain ⟨m, em, hm, ho⟩ := ms_at g2
  simp [MsV] at em
  obtain ⟨rfl, rfl, rfl, rfl, rfl, rfl, rfl, rfl, rfl, rfl, rfl, rfl⟩ := em
  exact ⟨⟨kd, nw, m⟩, rfl, kdb, hm, ho⟩
theorem ms_open {b0 : Nat} {v : Value} {d : DataW H} {ps : List MemPlace} (hv : Value.okWide Tryz.prog W .any b0 45 v) (h : DataW.Trod enc Tryz.prog W 0 (fun _ => true) true 45 v d ps) :
    ∃ m : Ms, v = .agg (MsV m) ∧ MsIn W m ∧ MsOk m := by
  obtain ⟨cs, rfl, hsz⟩ := okWide_struct Tryz.underlying45 hv
  rw [Tryz.cellsMs] at hsz
  obtain ⟨c0, c1, c2, c3, c4, c5, c6, c7, c8, c9, c10, c11, rfl⟩ := arrayN12 hsz
  obtain ⟨fuel, hf⟩ := h
  obtain ⟨m, em, hm, ho⟩ := ms_at hf
  refine ⟨m, ?_, hm, ho⟩
  congr 1
  exact Array.toList_inj.1 em
theorem sg_open {b0 : Nat} {v : Value} {d : DataW H} {ps : List MemPlace} (hv : Value.okWide Tryz.prog W .any b0 26 v) (h : DataW.Trod enc Tryz.prog W 0 (fun _ => true) true 26 v d ps) :
    ∃ s : Sg, v = .agg (SgV s) ∧ SgOk s := by
  obtain ⟨cs, rfl, hsz⟩ := okWide_struct Tryz.underlying26 hv
  rw [Tryz.cellsSg] at hsz
  obtain ⟨c0, c1, c2, c3, c4, c5, c6, c7, c8, c9, c10, rfl⟩ := arrayN11 hsz
  obtain ⟨fuel, hf⟩ := h
  obtain ⟨s, em, ho⟩ := sg_at hf
  refine ⟨s, ?_, ho⟩
  congr 1
  exact Array.toList_inj.1 em
theorem steps15_open {b0 : Nat} {v : Value} {d : DataW H} {ps : List MemPlace} (hv : Value.okWide Tryz.prog W .any b0 27 v) (h : DataW.Trod enc Tryz.prog W 0 (fun _ => true) true 27 v d ps) :
    ∃ a len cap xs, v = .slice a len cap ∧ Lst W a len cap 14 xs SpV (fun s => SpOk W s) := by
  obtain ⟨a, len, cap, rfl⟩ := okWide_slice Tryz.underlying27 hv
  obtain ⟨fuel, hf⟩ := h
  change DataW.trod enc Tryz.prog W 0 (fun _ => true) true fuel 27 [.slice a len cap] = _ at hf
  rcases Go.Deep.open_slice Tryz.underlying27 hf with ⟨hcs, _⟩ | ⟨ad, l, c, m, n, D, Pl, hcs, _, hl, hm, hmm, _, hx⟩
  · simp at hcs
    obtain ⟨rfl, rfl, rfl⟩ := hcs
    exact ⟨none, 0, 0, [], rfl, rfl, Nat.le_refl _, by omega, fun _ => ⟨rfl, rfl⟩, fun i hi => absurd hi (by simp), fun i hi => absurd hi (by simp)⟩
  · simp at hcs
    obtain ⟨rfl, rfl, rfl⟩ := hcs
    have hlm : len ≤ m := by rw [hmm]; simpa using hl
    rw [Tryz.cellsSp] at hx
    have each : ∀ i, i < len → ∃ x, (fun s => SpOk W s) x ∧ ∀ j, j < 14 → W.cell? ((ad.add (i * 14)).add j) = (SpV x)[j]? := fun i hi => by
      obtain ⟨cs, h1, h2⟩ := hx i (by omega)
      obtain ⟨_, hlen, hcell⟩ := World.cells?_some h1
      obtain ⟨c0, c1, c2, c3, c4, c5, c6, c7, c8, c9, c10, c11, c12, c13, rfl⟩ := listN14 hlen
      obtain ⟨x, em, hi2⟩ := sp_at h2
      refine ⟨x, hi2, fun j hj => ?_⟩
      rw [hcell j hj, em]
      simp
    have hspot : 0 < len → ad.spot = none := fun h0 => by
      obtain ⟨x, _, hc⟩ := each 0 h0
      have := hc 0 (by omega)
      obtain ⟨b, off, spot⟩ := ad
      have h3 : ∃ u, (SpV x)[0]? = some u := ⟨_, rfl⟩
      obtain ⟨u, hu⟩ := h3
      rw [hu] at this
      simpa [Addr.add] using World.cell?_spot this
    have lt : ∀ i : Fin len, i.1 < len := fun i => i.2
    refine ⟨some ad, len, cap, List.ofFn fun i : Fin len => (each i.1 i.2).choose, rfl, by simp, hl, by unfold maxLen at hm; omega, (fun e => by cases e), fun i hi => ?_, fun i hi => ?_⟩
    · have hi' : i < len := by simpa using hi
      have hs := hspot (by omega)
      obtain ⟨b, off, spot⟩ := ad
      simp only at hs
      subst hs
      refine ⟨b, off, rfl, fun j hj => ?_⟩
      have e : (⟨b, off + i * 14 + j, none⟩ : Addr) = ((⟨b, off, none⟩ : Addr).add (i * 14)).add j := by rw [Go.WideShapes.add_plain, Go.WideShapes.add_plain]
      rw [List.getElem_ofFn, e]
      exact (each i hi').choose_spec.2 j hj
    · have hi' : i < len := by simpa using hi
      rw [List.getElem_ofFn]
      exact (each i hi').choose_spec.1
theorem jobs_open {b0 : Nat} {v : Value} {d : DataW H} {ps : List MemPlace} (hv : Value.okWide Tryz.prog W .any b0 62 v) (h : DataW.Trod enc Tryz.prog W 0 (fun _ => true) true 62 v d ps) :
    ∃ a len cap xs, v = .slice a len cap ∧ Lst W a len cap 3 xs JbV (fun j => JbIn W j ∧ isU j.seed ∧ isI j.most) := by
  obtain ⟨a, len, cap, rfl⟩ := okWide_slice Tryz.underlying62 hv
  obtain ⟨fuel, hf⟩ := h
  change DataW.trod enc Tryz.prog W 0 (fun _ => true) true fuel 62 [.slice a len cap] = _ at hf
  rcases Go.Deep.open_slice Tryz.underlying62 hf with ⟨hcs, _⟩ | ⟨ad, l, c, m, n, D, Pl, hcs, _, hl, hm, hmm, _, hx⟩
  · simp at hcs
    obtain ⟨rfl, rfl, rfl⟩ := hcs
    exact ⟨none, 0, 0, [], rfl, rfl, Nat.le_refl _, by omega, fun _ => ⟨rfl, rfl⟩, fun i hi => absurd hi (by simp), fun i hi => absurd hi (by simp)⟩
  · simp at hcs
    obtain ⟨rfl, rfl, rfl⟩ := hcs
    have hlm : len ≤ m := by rw [hmm]; simpa using hl
    rw [Tryz.cellsJb] at hx
    have each : ∀ i, i < len → ∃ x, (fun j => JbIn W j ∧ isU j.seed ∧ isI j.most) x ∧ ∀ j, j < 3 → W.cell? ((ad.add (i * 3)).add j) = (JbV x)[j]? := fun i hi => by
      obtain ⟨cs, h1, h2⟩ := hx i (by omega)
      obtain ⟨_, hlen, hcell⟩ := World.cells?_some h1
      obtain ⟨c0, c1, c2, rfl⟩ := listN3 hlen
      obtain ⟨x, em, hi2⟩ := job_at h2
      refine ⟨x, hi2, fun j hj => ?_⟩
      rw [hcell j hj, em]
      simp
    have hspot : 0 < len → ad.spot = none := fun h0 => by
      obtain ⟨x, _, hc⟩ := each 0 h0
      have := hc 0 (by omega)
      obtain ⟨b, off, spot⟩ := ad
      have h3 : ∃ u, (JbV x)[0]? = some u := ⟨_, rfl⟩
      obtain ⟨u, hu⟩ := h3
      rw [hu] at this
      simpa [Addr.add] using World.cell?_spot this
    have lt : ∀ i : Fin len, i.1 < len := fun i => i.2
    refine ⟨some ad, len, cap, List.ofFn fun i : Fin len => (each i.1 i.2).choose, rfl, by simp, hl, by unfold maxLen at hm; omega, (fun e => by cases e), fun i hi => ?_, fun i hi => ?_⟩
    · have hi' : i < len := by simpa using hi
      have hs := hspot (by omega)
      obtain ⟨b, off, spot⟩ := ad
      simp only at hs
      subst hs
      refine ⟨b, off, rfl, fun j hj => ?_⟩
      have e : (⟨b, off + i * 3 + j, none⟩ : Addr) = ((⟨b, off, none⟩ : Addr).add (i * 3)).add j := by rw [Go.WideShapes.add_plain, Go.WideShapes.add_plain]
      rw [List.getElem_ofFn, e]
      exact (each i hi').choose_spec.2 j hj
    · have hi' : i < len := by simpa using hi
      rw [List.getElem_ofFn]
      exact (each i hi').choose_spec.1
end Args
end Go.Proofs.YtjgggialnegddaaGreat
namespace Go.Proofs.YtjgggialnegddaaGreat
open Go.RowKit Go.Maps
set_option linter.unusedVariables false
set_option maxRecDepth 1000000

theorem alaw : Keyed Tryz.prog 22 := int_keyed Tryz.underlying22
theorem azero (w : World) : (zeroValue 88).run Tryz.prog w = .ok (.pointer none) w := by kernel_rfl
theorem isU.wf {x : Int} (h : isU x) : (Lit.int .u64 x).wf = true := WalkArith.wf_u64 h
theorem akey {x : Int} (h : isU x) : keyOf Tryz.prog 22 (.int .u64 x) = some (.int .u64 x) := keyOf_int_mk Tryz.underlying22 h.wf
/-- The map in block B, of c entries, leads from x to the block f x. -/
def AmAt (W : World) (B c : Nat) (f : Int → Option Nat) : Prop :=
  ∃ D : DataW Unit, W.ownsMap Tryz.prog 22 Rp B c D ∧ (∀ x, isU x → D.atKey (.int .u64 x) (.lit (.int .i64 (-1))) = .lit (.int .i64 (codeP (f x))) ∧ Maps.has D (.int .u64 x) = (f x).isSome) ∧ Maps.size D = c
theorem AmAt.new (w : World) : AmAt (w.alloc (.map #[] 0)) w.heap.size 0 (fun _ => none) := ⟨.map [], World.ownsMap_made _ _ _ _, fun v _ => ⟨rfl, rfl⟩, rfl⟩
theorem AmAt.lt {W : World} {B c : Nat} {f : Int → Option Nat} (h : AmAt W B c f) : B < W.heap.size := by obtain ⟨D, h1, _⟩ := h; exact h1.lt
theorem AmAt.blk {W : World} {B c : Nat} {f : Int → Option Nat} (h : AmAt W B c f) : ∃ es clock, W.heap[B]? = some (.map es clock) := by
  obtain ⟨D, ⟨es, clock, h1, h2⟩, h3⟩ := h
  exact ⟨es, clock, h1⟩
theorem AmAt.same {W W' : World} {B c : Nat} {f : Int → Option Nat} (h : AmAt W B c f) (hb : W'.heap[B]? = W.heap[B]?) : AmAt W' B c f := by
  obtain ⟨D, ⟨es, clock, h1, h2⟩, h3⟩ := h
  exact ⟨D, ⟨es, clock, hb.trans h1, h2⟩, h3⟩
theorem AmAt.below {W W' : World} {B c : Nat} {f : Int → Option Nat} (h : AmAt W B c f) (hb : Below W.heap.size W W') : AmAt W' B c f := h.same (hb.block _ h.lt)
theorem AmAt.ext {W : World} {B c : Nat} {f g : Int → Option Nat} (h : AmAt W B c f) (he : ∀ x, isU x → f x = g x) : AmAt W B c g := by
  obtain ⟨D, h1, h2, h3⟩ := h
  exact ⟨D, h1, fun x hx => by rw [← he x hx]; exact h2 x hx, h3⟩
theorem owns_tight {W : World} {B n : Nat} {D : DataW Unit} (h : W.ownsMap Tryz.prog 22 Rp B n D) : W.ownsMap Tryz.prog 22 Rp B (Maps.size D) D := by
  obtain ⟨es, clock, h1, h2, h3, rfl⟩ := h
  refine ⟨es, clock, h1, h2, ?_, rfl⟩
  rw [size_eq, length_read]
  exact Nat.le_refl _
theorem AmAt.look {W : World} {B c : Nat} {f : Int → Option Nat} (h : AmAt W B c f) {x : Int} (hx : isU x) : (Instr.lookup 71 (.map (some B)) (.int .u64 x) false).run Tryz.prog W = .ok (.pointer (ptrP (f x))) W := by
  obtain ⟨D, h1, h2, _⟩ := h
  obtain ⟨u, ps, hr, hu⟩ := h1.lookup alaw Tryz.underlying71 (azero W) (zd := .lit (.int .i64 (-1))) (zp := []) rfl (akey hx)
  rw [(h2 x hx).1] at hu
  rw [hr, Rp_inv hu]
theorem AmAt.store {W : World} {B c : Nat} {f : Int → Option Nat} (h : AmAt W B c f) (hn : c ≤ 100000) {x : Int} (hx : isU x) (b : Nat) :
    ∃ W', (Instr.mapUpdate 71 (.map (some B)) (.int .u64 x) (.pointer (some ⟨b, 0, none⟩))).run Tryz.prog W = .ok () W' ∧ (f x = none → ∀ g : Int → Option Nat, g x = some b → (∀ u, u ≠ x → g u = f u) → AmAt W' B (c + 1) g) ∧ W.mapTurned W' B := by
  obtain ⟨D, h1, h2, h3⟩ := h
  obtain ⟨W', hr, ho, hg⟩ := h1.store alaw Tryz.underlying71 (by unfold maxLen; omega) (akey hx) (Rp_mk b)
  refine ⟨W', hr, fun hf g g1 g2 => ⟨_, ho, fun u hu => ?_, ?_⟩, hg⟩
  · by_cases e : u = x
    · subst e
      rw [atKey_put_same h1.isMap (alaw.key (akey hx)), has_put_same h1.isMap (alaw.key (akey hx)), g1]
      exact ⟨rfl, rfl⟩
    · have hne : Lit.int .u64 u ≠ Lit.int .u64 x := fun e2 => e (by cases e2; rfl)
      rw [atKey_put_other hne, has_put_other hne, g2 u e]
      exact h2 u hu
  · rw [size_put (h1.tidy alaw), (h2 x hx).2, hf, h3]
    simp
theorem AmAt.drop {W : World} {B c : Nat} {f : Int → Option Nat} (h : AmAt W B c f) {x : Int} (hx : isU x) (ty : TypeId) :
    ∃ W', (Builtin.delete_ #[71, 22] ty #[.map (some B), .int .u64 x]).run Tryz.prog W = .ok (.tuple #[]) W' ∧ (∀ g : Int → Option Nat, g x = none → (∀ u, u ≠ x → g u = f u) → AmAt W' B (c - (if (f x).isSome then 1 else 0)) g) ∧ W.mapTurned W' B := by
  obtain ⟨D, h1, h2, h3⟩ := h
  obtain ⟨W', hr, ho, hg⟩ := h1.drop alaw Tryz.underlying71 (akey hx) ty
  have hs := size_del (k := Lit.int .u64 x) (h1.tidy alaw)
  rw [(h2 x hx).2, h3] at hs
  have hs2 : Maps.size (D.del (.int .u64 x)) = c - (if (f x).isSome then 1 else 0) := by omega
  refine ⟨W', hr, fun g g1 g2 => ⟨_, hs2 ▸ owns_tight ho, fun u hu => ?_, hs2⟩, hg⟩
  by_cases e : u = x
  · subst e
    rw [atKey_del_same, has_del_same, g1]
    exact ⟨rfl, rfl⟩
  · have hne : Lit.int .u64 u ≠ Lit.int .u64 x := fun e2 => e (by cases e2; rfl)
    rw [atKey_del_other hne, has_del_other hne, g2 u e]
    exact h2 u hu
theorem AmAt.len {W : World} {B c : Nat} {f : Int → Option Nat} (h : AmAt W B c f) (ty : TypeId) : (Builtin.len_ #[71] ty #[.map (some B)]).run Tryz.prog W = .ok (.int .i64 c) W := by
  obtain ⟨D, h1, h2, h3⟩ := h
  have := h1.len Tryz.underlying71 ty
  rw [h3] at this
  exact this
theorem AmAt.wipe {W : World} {B c : Nat} {f : Int → Option Nat} (h : AmAt W B c f) (ty : TypeId) :
    ∃ W', (Builtin.clear_ #[71] ty #[.map (some B)]).run Tryz.prog W = .ok (.tuple #[]) W' ∧ AmAt W' B 0 (fun _ => none) ∧ Fb (at1 B) W W' := by
  obtain ⟨es, clock, hb⟩ := h.blk
  refine ⟨{ W with heap := W.heap.setIfInBounds B (.map #[] clock) }, ?_, ⟨.map [], ⟨#[], clock, (MapKept.heap_set hb).1, ⟨by simp, MapKept.stamped_empty clock, by simp⟩, Nat.le_refl _, rfl⟩, fun v _ => ⟨rfl, rfl⟩, rfl⟩, ⟨rfl, rfl, rfl, by simp, fun k _ hk => (MapKept.heap_set hb).2 k hk⟩⟩
  simp [Builtin.clear_, run_underlying Tryz.underlying71, MapKept.run_getObj_map hb, MapKept.run_setObj_map _ hb, Result.andThen]
end Go.Proofs.YtjgggialnegddaaGreat
