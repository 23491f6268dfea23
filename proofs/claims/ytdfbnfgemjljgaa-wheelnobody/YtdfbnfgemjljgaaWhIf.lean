/-
  What is asked of the program's wheel (Whl): its state in memory (P W B F T last L: the wheel at B, the blocks F that its calls may turn, its time, its last number, its timers), and what its calls do to it.
-/
import Derived.Test.YtdfbnfgemjljgaaWhRj
import Derived.Test.YtdfbnfgemjljgaaWhOn
import Derived.Test.YtdfbnfgemjljgaaWhArgs
import Derived.Maps.AppendAt
namespace Go.Proofs.Ytdfbnfgemjljgaa
open Go.RowKit Go.Maps
set_option linter.unusedVariables false
set_option maxRecDepth 1000000

abbrev WPred := World → Nat → (Nat → Prop) → Int → Int → List Tm → Prop
/-- Behind a call. -/
def WlO (P : WPred) (W : World) (B : Nat) (F : Nat → Prop) (T last : Int) (L : List Tm) (W' : World) : Prop := ∃ F', P W' B F' T last L ∧ Fb F W W' ∧ ∀ k, F' k → F k ∨ W.heap.size ≤ k
/-- What Due hands out: a list of its own. -/
def WlD (P : WPred) (W : World) (B : Nat) (F : Nat → Prop) (T last : Int) (L D : List Tm) (a : Option Addr) (len cap : Nat) (W' : World) : Prop :=
  TsAt 54 W' a len cap D ∧ ∃ F', P W' B F' T last L ∧ Fb F W W' ∧ (∀ k, F' k → F k ∨ W.heap.size ≤ k) ∧ ∀ ad, a = some ad → W.heap.size ≤ ad.block ∧ ¬ F' ad.block
structure Whl (P : WPred) : Prop where
  lt : ∀ {W B F T last L}, P W B F T last L → ∀ k, F k → k < W.heap.size
  fb : ∀ {W B F T last L}, P W B F T last L → ∀ {G : Nat → Prop} {W' : World}, Fb G W W' → (∀ k, F k → ¬ G k) → P W' B F T last L
  ty : ∀ {W B F T last L}, P W B F T last L → ∀ k, F k → ∀ cur fr, W.heap[k]? ≠ some (.cells cur 49 fr)
  bd : ∀ {W B F T last L}, P W B F T last L → (0 ≤ T ∧ T ≤ 1099511627776) ∧ (0 ≤ last ∧ last ≤ 2147483647) ∧ L.length ≤ 4096
  new : ∀ W : World, Calls Try.prog 6 #[] W fun e w' => ∃ B, e = .returned (.pointer (some ⟨B, 0, none⟩)) ∧ Hid (∃ F, P w' B F 0 0 [] ∧ (∀ k, F k → W.heap.size ≤ k) ∧ Below W.heap.size W w')
  set : ∀ {W B F T last L}, P W B F T last L → ∀ {now after kind label : Int}, isI now → isI after → isI kind → isU label →
    Calls Try.prog 15 #[.pointer (some ⟨B, 0, none⟩), .int .i64 now, .int .i64 after, .int .i64 kind, .int .u64 label] W fun e w' => e = .returned (.tuple #[.int .i64 (if setC last L after = 0 then last + 1 else 0), .int .i64 (setC last L after)]) ∧
      Hid (WlO P W B F (timeZ T now) (if setC last L after = 0 then last + 1 else last) (setL (timeZ T now) last after kind label L) w')
  stop : ∀ {W B F T last L}, P W B F T last L → ∀ {n : Int}, isI n →
    Calls Try.prog 8 #[.pointer (some ⟨B, 0, none⟩), .int .i64 n] W fun e w' => e = .returned (.int .i64 (stpC n L)) ∧ Hid (WlO P W B F T last (stpT n L) w')
  stopall : ∀ {W B F T last L}, P W B F T last L → ∀ {lb : Int}, isU lb →
    Calls Try.prog 10 #[.pointer (some ⟨B, 0, none⟩), .int .u64 lb] W fun e w' => e = .returned (.int .i64 ((L.length : Int) - (allT lb L).length)) ∧ Hid (WlO P W B F T last (allT lb L) w')
  due : ∀ {W B F T last L}, P W B F T last L → ∀ {now : Int}, isI now →
    Calls Try.prog 13 #[.pointer (some ⟨B, 0, none⟩), .int .i64 now] W fun e w' => ∃ a len cap, e = .returned (.slice a len cap) ∧ Hid (WlD P W B F (timeZ T now) last (L.dropWhile (dueB (timeZ T now))) (L.takeWhile (dueB (timeZ T now))) a len cap w')
  len : ∀ {W B F T last L}, P W B F T last L →
    Calls Try.prog 18 #[.pointer (some ⟨B, 0, none⟩)] W fun e w' => e = .returned (.int .i64 L.length) ∧ Hid (Below W.heap.size W w')
  next : ∀ {W B F T last L}, P W B F T last L →
    Calls Try.prog 17 #[.pointer (some ⟨B, 0, none⟩)] W fun e w' => e = .returned (.tuple #[.int .i64 ((L.head?.map Tm.due).getD 0), .bool (decide (0 < L.length))]) ∧ Hid (Below W.heap.size W w')
  now : ∀ {W B F T last L}, P W B F T last L →
    Calls Try.prog 19 #[.pointer (some ⟨B, 0, none⟩)] W fun e w' => e = .returned (.int .i64 T) ∧ Hid (Below W.heap.size W w')
theorem Whl.below {P : WPred} (hP : Whl P) {W W' : World} {B : Nat} {F : Nat → Prop} {T last : Int} {L : List Tm} (h : P W B F T last L) (hb : Below W.heap.size W W') : P W' B F T last L :=
  hP.fb h (G := fun _ => False) (Fb.of hb) fun _ _ h => h
/-- What WheelOnce has between its steps: the wheel, its map of times, its list of numbers. -/
structure OcS (P : WPred) (w : World) (B : Nat) (F : Nat → Prop) (Mu : Nat) (T last : Int) (L : List Tm) (K : List Int) (f : Int → Int) (ov : Value) (od : List Int) (W : World) : Prop where
  wl : P W B F T last L
  us : UsAt W Mu K f
  ow : W.ownsRow w.heap.size 3 1 ov od.length (od.map (.int .i64))
  bel : Below w.heap.size w W
  lo : ∀ k, F k → w.heap.size ≤ k
  lom : w.heap.size ≤ Mu
  ap : ¬ F Mu
  apo : ∀ g, ov.ownBlock = some g → ¬ F g ∧ g ≠ Mu
  odi : ∀ y ∈ od, isI y
theorem own_lt {base e size n : Nat} {v : Value} {xs : List Value} {w : World} (h : w.ownsRow base e size v n xs) {g : Nat} (hg : v.ownBlock = some g) : base ≤ g ∧ g < w.heap.size := by
  rcases id h.2 with ⟨h', _⟩ | ⟨g', c, cur, hv, hB, hc, rest⟩
  · rw [h'] at hg; cases hg
  · rw [hv] at hg
    cases hg
    exact ⟨hB, lt_of_block hc⟩
section
variable {P : WPred} {w W W' : World} {B : Nat} {F : Nat → Prop} {Mu : Nat} {T last T' last' : Int} {L L' : List Tm} {K K' : List Int} {f f' : Int → Int} {ov : Value} {od : List Int}
theorem OcS.below (hP : Whl P) (h : OcS P w B F Mu T last L K f ov od W) (hb : Below W.heap.size W W') : OcS P w B F Mu T last L K f ov od W' :=
  ⟨hP.below h.wl hb, h.us.same (hb.block _ h.us.lt), own_below h.ow hb, h.bel.trans (hb.mono h.bel.size), h.lo, h.lom, h.ap, h.apo, h.odi⟩
theorem OcS.turn (hP : Whl P) (h : OcS P w B F Mu T last L K f ov od W) {F' : Nat → Prop} (h1 : P W' B F' T' last' L') (h2 : Fb F W W') (h3 : ∀ k, F' k → F k ∨ W.heap.size ≤ k) : OcS P w B F' Mu T' last' L' K f ov od W' := by
  refine ⟨h1, h.us.same (h2.block _ h.us.lt h.ap), own_blk h.ow fun g hg => h2.block g (own_lt h.ow hg).2 (h.apo g hg).1, h.bel.trans (h2.to h.lo h.bel.size), fun k hk => ?_, h.lom, fun hk => ?_, fun g hg => ⟨fun hk => ?_, (h.apo g hg).2⟩, h.odi⟩
  · rcases h3 k hk with h4 | h4
    · exact h.lo k h4
    · exact Nat.le_trans h.bel.size h4
  · rcases h3 _ hk with h4 | h4
    · exact h.ap h4
    · have := h.us.lt; omega
  · rcases h3 _ hk with h4 | h4
    · exact (h.apo g hg).1 h4
    · have := (own_lt h.ow hg).2; omega
theorem OcS.step (hP : Whl P) (h : OcS P w B F Mu T last L K f ov od W) (ho : WlO P W B F T' last' L' W') : ∃ F', OcS P w B F' Mu T' last' L' K f ov od W' := by
  obtain ⟨F', h1, h2, h3⟩ := ho
  exact ⟨F', h.turn hP h1 h2 h3⟩
theorem OcS.setU (hP : Whl P) (h : OcS P w B F Mu T last L K f ov od W) (ho : UsAt W' Mu K' f') (hf : Fb (at1 Mu) W W') : OcS P w B F Mu T last L K' f' ov od W' :=
  ⟨hP.fb h.wl hf fun k hk e => h.ap (by have e' : k = Mu := e; rw [← e']; exact hk), ho, own_blk h.ow fun g hg => hf.block g (own_lt h.ow hg).2 (h.apo g hg).2, h.bel.trans (hf.to (fun k e => by have e' : k = Mu := e; rw [e']; exact h.lom) h.bel.size), h.lo, h.lom, h.ap, h.apo, h.odi⟩
theorem OcS.new (h1 : P W B F 0 0 []) (h2 : ∀ k, F k → w.heap.size ≤ k) (h3 : Below w.heap.size w W) (hP : Whl P) (hW : W' = W.alloc (.map #[] 0)) : OcS P w B F W.heap.size 0 0 [] [] (fun _ => 0) (.slice none 0 0) [] W' := by
  subst hW
  have hb : Below W.heap.size W (W.alloc (.map #[] 0)) := (Below.refl _ _).alloc (Nat.le_refl _) _
  exact ⟨hP.below h1 hb, UsAt.new W, World.ownsRow_nil _ _ _ _, h3.trans (hb.mono h3.size), h2, h3.size, fun hF => Nat.lt_irrefl _ (hP.lt h1 _ hF), (fun g hg => by cases hg), fun y hy => by cases hy⟩
theorem OcS.app (hP : Whl P) (h : OcS P w B F Mu T last L K f ov od W) {v' : Value} {y : Int} (ho : W'.ownsRow w.heap.size 3 1 v' (od.length + 1) (od.map (.int .i64) ++ [.int .i64 y])) (hg : W.grownBy W' ov.ownBlock) (hat : v'.ownBlock = ov.ownBlock ∨ v'.ownBlock = some W.heap.size) (hy : isI y) : OcS P w B F Mu T last L K f v' (od ++ [y]) W' := by
  have hf : Fb (fun k => ov.ownBlock = some k) W W' := ⟨hg.os, hg.tape, hg.output, hg.size, fun k hk hn => hg.block k hk fun e => hn (by first | exact e | exact e.symm)⟩
  refine ⟨hP.fb h.wl hf fun k hk e => (h.apo k e).1 hk, h.us.same (hf.block _ h.us.lt fun e => (h.apo _ e).2 rfl), by rw [List.length_append, List.map_append]; exact ho, h.bel.trans (hf.to (fun k e => (own_lt h.ow e).1) h.bel.size), h.lo, h.lom, h.ap, fun g hg' => ?_, fun z hz => ?_⟩
  · rcases hat with e | e
    · rw [e] at hg'; exact h.apo g hg'
    · rw [e] at hg'
      cases hg'
      exact ⟨fun hF => Nat.lt_irrefl _ (hP.lt h.wl _ hF), fun e => by have := h.us.lt; omega⟩
  · rcases List.mem_append.1 hz with hz | hz
    · exact h.odi z hz
    · rw [List.mem_singleton.1 hz]; exact hy
end
end Go.Proofs.Ytdfbnfgemjljgaa
