/-
  ProbeEvery: the map of numbers that came; its mathematics; what stands in memory.
-/
import Derived.Test.YtmpooeflbfggbaaPbUpW
import Derived.Maps.Own
import Derived.Maps.OwnOps
import Derived.Maps.Views
import Derived.Maps.OwnSet
import Derived.MapViews
namespace Go.Proofs.Ytmpooeflbfggbaa
open Go.RowKit Go.Maps
set_option linter.unusedVariables false
set_option maxRecDepth 1000000

/-! ### The map -/
theorem isU.wf {x : Int} (h : isU x) : (Lit.int .u64 x).wf = true := WalkArith.wf_u64 h
/-- How a truth reads. -/
def Rt : Value → Option (DataW Unit × List MemPlace)
  | .bool b => some (.lit (.bool b), [])
  | _ => none
theorem Rt_mk (b : Bool) : Rt (.bool b) = some (.lit (.bool b), []) := rfl
theorem Rt_inv {v : Value} {b : Bool} {ps : List MemPlace} (h : Rt v = some (.lit (.bool b), ps)) : v = .bool b := by
  cases v <;> simp [Rt] at h
  rw [h.1]
theorem tzero (w : World) : (zeroValue 4).run Try.prog w = .ok (.bool false) w := by kernel_rfl
theorem ulaw : Keyed Try.prog 33 := int_keyed Try.underlying33
theorem ukey {x : Int} (h : isU x) : keyOf Try.prog 33 (.int .u64 x) = some (.int .u64 x) := keyOf_int_mk Try.underlying33 h.wf
theorem fb_map {W W' : World} {B : Nat} (h : W.mapTurned W' B) : Fb (at1 B) W W' := by
  have := h.grown
  exact ⟨this.os, this.tape, this.output, this.size, fun k hk hn => this.block k hk fun e => hn (by cases e; rfl)⟩
/-- The map in block M holds just these numbers as keys, each true. -/
def VsAt (W : World) (M n : Nat) (K : List Int) : Prop :=
  ∃ D : DataW Unit, W.ownsMap Try.prog 33 Rt M n D ∧ ∀ z, isU z → D.atKey (.int .u64 z) (.lit (.bool false)) = .lit (.bool (decide (z ∈ K)))
theorem VsAt.new (w : World) : VsAt (w.alloc (.map #[] 0)) w.heap.size 0 [] := ⟨.map [], World.ownsMap_made _ _ _ _, fun v _ => rfl⟩
theorem VsAt.lt {W : World} {M n : Nat} {K : List Int} (h : VsAt W M n K) : M < W.heap.size := by obtain ⟨D, h1, _⟩ := h; exact h1.lt
theorem VsAt.same {W W' : World} {M n : Nat} {K : List Int} (h : VsAt W M n K) (hb : W'.heap[M]? = W.heap[M]?) : VsAt W' M n K := by
  obtain ⟨D, ⟨es, clock, h1, h2⟩, h3⟩ := h
  exact ⟨D, ⟨es, clock, hb.trans h1, h2⟩, h3⟩
theorem VsAt.below {W W' : World} {M n : Nat} {K : List Int} (h : VsAt W M n K) (hb : Below W.heap.size W W') : VsAt W' M n K := h.same (hb.block _ h.lt)
theorem VsAt.more {W : World} {M n m : Nat} {K : List Int} (h : VsAt W M n K) (hm : n ≤ m) : VsAt W M m K := by
  obtain ⟨D, ⟨es, clock, h1, h2, h3, h4⟩, h5⟩ := h
  exact ⟨D, ⟨es, clock, h1, h2, Nat.le_trans h3 hm, h4⟩, h5⟩
theorem VsAt.look {W : World} {M n : Nat} {K : List Int} (h : VsAt W M n K) {z : Int} (hz : isU z) : (Instr.lookup 46 (.map (some M)) (.int .u64 z) false).run Try.prog W = .ok (.bool (decide (z ∈ K))) W := by
  obtain ⟨D, h1, h2⟩ := h
  obtain ⟨u, ps, hr, hu⟩ := h1.lookup ulaw Try.underlying46 (tzero W) (zd := .lit (.bool false)) (zp := []) rfl (ukey hz)
  rw [h2 z hz] at hu
  rw [hr, Rt_inv hu]
theorem VsAt.store {W : World} {M n : Nat} {K : List Int} (h : VsAt W M n K) (hn : n ≤ 100000) {z : Int} (hz : isU z) :
    ∃ W', (Instr.mapUpdate 46 (.map (some M)) (.int .u64 z) (.bool true)).run Try.prog W = .ok () W' ∧ VsAt W' M (n + 1) (z :: K) ∧ Fb (at1 M) W W' := by
  obtain ⟨D, h1, h2⟩ := h
  obtain ⟨W', hr, ho, hg⟩ := h1.store ulaw Try.underlying46 (by unfold maxLen; omega) (ukey hz) (Rt_mk true)
  refine ⟨W', hr, ⟨_, ho, fun y hy => ?_⟩, fb_map hg⟩
  by_cases e : y = z
  · subst e
    rw [atKey_put_same h1.isMap (ulaw.key (ukey hz))]
    simp
  · have hne : Lit.int .u64 y ≠ Lit.int .u64 z := fun e2 => e (by cases e2; rfl)
    rw [atKey_put_other hne, h2 y hy]
    simp [e]
/-! ### Its mathematics -/
theorem Pk.go_nx (P : Pk) (t : Int) : (P.go t).nx = P.nx ∧ (P.go t).e = P.e ∧ (P.go t).wt = P.wt ∧ (P.go t).now = tmZ P.now t ∧ ((P.go t).op = true → P.op = true ∧ (P.go t).en = P.en) := by
  unfold Pk.go
  split
  · unfold Pk.miss
    split <;> exact ⟨rfl, rfl, rfl, rfl, fun e => absurd e (by show ¬ false = true; decide)⟩
  · exact ⟨rfl, rfl, rfl, rfl, fun e => ⟨e, rfl⟩⟩
/-- At each round's beginning. -/
structure EvI (s : Sg) (k : Nat) (now last : Int) (K : List Int) (P : Pk) : Prop where
  e : P.e = s.e
  wt : P.wt = s.wt
  nw : P.now = now
  bd : 0 ≤ now ∧ now ≤ k * 1048576
  l0 : last = -1 ∨ (0 ≤ last ∧ last ≤ now ∧ P.nx = last + s.e)
  l1 : last = -1 → P.nx = 0 ∧ P.op = false
  op : P.op = true → P.en = last + s.wt ∧ P.ask ∉ K
  kb : ∀ z ∈ K, z ≤ P.ask
theorem EvI.new (s : Sg) : EvI s 0 0 (-1) [] (Pk.new s) := ⟨rfl, rfl, rfl, ⟨Int.le_refl _, by omega⟩, .inl rfl, fun _ => ⟨rfl, rfl⟩, fun e => absurd e (by show ¬ false = true; decide), fun z hz => by simp at hz⟩
theorem EvI.go {s : Sg} {k : Nat} {now last t : Int} {K : List Int} {P : Pk} (h : EvI s k now last K P) (hk : k ≤ 400) (h0 : now ≤ t) (h1 : t ≤ now + 1048576) : EvI s (k + 1) t last K (P.go t) := by
  have hb := h.bd
  have hn := h.nw
  obtain ⟨q1, q2, q3, q4, q5⟩ := Pk.go_nx P t
  refine ⟨q2.trans h.e, q3.trans h.wt, ?_, by omega, ?_, ?_, ?_, ?_⟩
  · rw [q4]
    unfold tmZ
    split <;> omega
  · rcases h.l0 with hl | ⟨l1, l2, l3⟩
    · exact .inl hl
    · exact .inr ⟨l1, by omega, by rw [q1]; exact l3⟩
  · intro hl
    obtain ⟨l1, l2⟩ := h.l1 hl
    refine ⟨by rw [q1]; exact l1, ?_⟩
    cases hb2 : (P.go t).op
    · rfl
    · have := (q5 hb2).1
      rw [l2] at this
      cases this
  · intro ho
    obtain ⟨o1, o2⟩ := q5 ho
    obtain ⟨p1, p2⟩ := h.op o1
    rw [o2, Pk.ask_go]
    exact ⟨p1, p2⟩
  · intro z hz
    rw [Pk.ask_go]
    exact h.kb z hz
section Step
variable {s : Sg} {k : Nat} {now last n : Int} {K : List Int} {P : Pk}
/-- Tick, at the time that now is: it is not time yet. -/
theorem EvI.tick_no (h : EvI s k now last K P) (hx : P.now < P.nx) : P.tkn = 0 ∧ P.tkb = false ∧ P.tk = P := ⟨if_pos hx, decide_eq_false (by omega), if_pos hx⟩
/-- It is time. -/
theorem EvI.tick_yes (h : EvI s k now last K P) (ok : PkOk P) (hx : ¬ P.now < P.nx) : P.tkn = P.ask + 1 ∧ P.tkb = true ∧ EvI s k now now K P.tk ∧ P.tk.ask = P.ask + 1 ∧ (last = -1 ∨ (0 ≤ last ∧ s.e ≤ now - last ∧ last ≤ now)) := by
  have e : P.tk = P.asks := if_neg hx
  have hb := h.bd
  have hn := h.nw
  rw [e]
  refine ⟨if_neg hx, decide_eq_true (by omega), ⟨h.e, h.wt, h.nw, h.bd, .inr ⟨hb.1, Int.le_refl _, ?_⟩, fun hl => by omega, fun _ => ⟨?_, ?_⟩, ?_⟩, rfl, ?_⟩
  · show P.now + P.e = _
    rw [h.e, hn]
  · show P.now + P.wt = _
    rw [h.wt, hn]
  · intro hm
    have := h.kb _ hm
    have : P.ask + 1 ≤ P.ask := this
    omega
  · intro z hz
    have := h.kb z hz
    show z ≤ P.ask + 1
    omega
  · rcases h.l0 with hl | ⟨l1, l2, l3⟩
    · exact .inl hl
    · exact .inr ⟨l1, by omega, l2⟩
/-- Pong, at the time that now is: it is not the open one's number. -/
theorem EvI.pong_no (h : EvI s k now last K P) (hx : P.yes n = false) : P.pg n = P := by unfold Pk.pg; rw [hx, if_neg (by decide)]
/-- It is. -/
theorem EvI.pong_yes (h : EvI s k now last K P) (ok : PkOk P) (hl : P.op = true → P.now < P.en) (hx : P.yes n = true) : n = P.ask ∧ n ∉ K ∧ now - last < s.wt ∧ 0 ≤ last ∧ last ≤ now ∧ EvI s k now last (n :: K) (P.pg n) ∧ (P.pg n).ask = P.ask := by
  have hx' := hx
  unfold Pk.yes at hx'
  simp only [Bool.and_eq_true, decide_eq_true_eq] at hx'
  obtain ⟨ho, hn⟩ := hx'
  have hl2 := hl ho
  obtain ⟨o1, o2⟩ := h.op ho
  have hn2 := h.nw
  have hlast : 0 ≤ last ∧ last ≤ now ∧ P.nx = last + s.e := h.l0.elim (fun hl3 => by
    have := (h.l1 hl3).2
    rw [ho] at this
    cases this) id
  have e : P.pg n = P.came := by unfold Pk.pg; rw [hx, if_pos rfl]
  have es : P.came.e = P.e ∧ P.came.wt = P.wt ∧ P.came.now = P.now ∧ P.came.nx = P.nx ∧ P.came.op = false ∧ P.came.ask = P.ask := by
    unfold Pk.came
    split <;> exact ⟨rfl, rfl, rfl, rfl, rfl, rfl⟩
  obtain ⟨s1, s2, s3, s4, s5, s6⟩ := es
  refine ⟨hn, by rw [hn]; exact o2, by omega, hlast.1, hlast.2.1, ?_, by rw [e, s6]⟩
  rw [e]
  refine ⟨s1.trans h.e, s2.trans h.wt, s3.trans h.nw, h.bd, .inr ⟨hlast.1, hlast.2.1, s4.trans hlast.2.2⟩, fun hl3 => by omega, fun ho2 => (by rw [s5] at ho2; cases ho2), ?_⟩
  intro z hz
  rw [s6]
  rcases List.mem_cons.1 hz with e2 | e2
  · omega
  · exact h.kb z e2
end Step
/-! ### In memory -/
/-- The setting's box, the prober, the map. -/
structure EvW (w : World) (q b M k : Nat) (s : Sg) (K : List Int) (P : Pk) (W : World) : Prop where
  up : UpW w q b s P W
  map : VsAt W M k K
  lo : q < M
  mb : M ≠ b
/-- And a step's block. -/
structure EvX (w : World) (q b M k sb : Nat) (s : Sg) (x : Sp) (K : List Int) (P : Pk) (W : World) : Prop where
  ev : EvW w q b M k s K P W
  st : W.heap[sb]? = some (.cells (SpV x) 38 (0, 0))
  nb : sb ≠ b
variable {w W W' : World} {q b M k sb : Nat} {s : Sg} {x : Sp} {K : List Int} {P P' : Pk}
theorem EvW.below (h : EvW w q b M k s K P W) (hb : Below W.heap.size W W') : EvW w q b M k s K P W' := ⟨h.up.below hb, h.map.below hb, h.lo, h.mb⟩
theorem EvW.new (h : UpW w q b s P W) (hW : W' = W.alloc (.map #[] 0)) : EvW w q b W.heap.size 0 s [] P W' := by
  subst hW
  refine ⟨h.below ((Below.refl _ _).alloc (Nat.le_refl _) _), VsAt.new W, ?_, ?_⟩
  · exact lt_of_block h.box
  · have := h.br.at'.lt
    omega
theorem EvX.new (h : EvW w q b M k s K P W) (x : Sp) (hW : W' = W.alloc (.cells (SpV x) 38)) : EvX w q b M k W.heap.size s x K P W' := by
  subst hW
  refine ⟨h.below ((Below.refl _ _).alloc (Nat.le_refl _) _), heap_alloc_new W _, ?_⟩
  have := h.up.br.at'.lt
  omega
theorem EvX.cells (h : EvX w q b M k sb s x K P W) : W.cell? ⟨sb, 0, none⟩ = some (.int .u8 x.kd) ∧ W.cell? ⟨sb, 1, none⟩ = some (.int .i64 x.later) ∧ W.cell? ⟨sb, 2, none⟩ = some (.int .u64 x.n) :=
  ⟨by rw [cell_of_row _ _ _ _ _ _ h.st]; rfl, by rw [cell_of_row _ _ _ _ _ _ h.st]; rfl, by rw [cell_of_row _ _ _ _ _ _ h.st]; rfl⟩
theorem EvX.to (h : EvX w q b M k sb s x K P W) (ok : PkOk P') (H : PkAt W' b P' ∧ Tn b W W') : EvX w q b M k sb s x K P' W' :=
  ⟨⟨h.ev.up.to (h.ev.up.br.step ok H), h.ev.map.same (H.2.block _ h.ev.map.lt (fun e => h.ev.mb e)), h.ev.lo, h.ev.mb⟩, H.2.one h.st (fun e => h.nb e), h.nb⟩
theorem EvX.tick (h : EvX w q b M k sb s x K P W) (t : Int) : Calls Try.prog 12 #[.pointer (some ⟨b, 0, none⟩), .int .i64 t] W fun e w' => e = .returned (.tuple #[.int .u64 (P.go t).tkn, .bool (P.go t).tkb]) ∧ Hid (EvX w q b M k sb s x K (P.go t).tk w') :=
  (ptick_any h.ev.up.br.at' h.ev.up.br.ok t).mono fun e w' ⟨he, H⟩ => ⟨he, h.to (h.ev.up.br.ok.go t).tk H.out⟩
theorem EvX.pong (h : EvX w q b M k sb s x K P W) (t n : Int) : Calls Try.prog 14 #[.pointer (some ⟨b, 0, none⟩), .int .i64 t, .int .u64 n] W fun e w' => e = .returned (.bool ((P.go t).yes n)) ∧ Hid (EvX w q b M k sb s x K ((P.go t).pg n) w') :=
  (ppong_any h.ev.up.br.at' h.ev.up.br.ok t n).mono fun e w' ⟨he, H⟩ => ⟨he, h.to ((h.ev.up.br.ok.go t).pg n) H.out⟩
theorem EvW.map_to {k' : Nat} {K' : List Int} (h : EvW w q b M k s K P W) (hm : VsAt W' M k' K') (hf : Fb (at1 M) W W') : EvW w q b M k' s K' P W' := by
  have hb := h.up.br
  have hlo : (w.alloc (.cells (SgV s) 23)).heap.size ≤ M := by
    have h1 := h.lo
    have h2 := h.up.q
    rw [World.size_alloc]
    omega
  exact ⟨h.up.to ⟨hf.one hb.at' (fun e => h.mb e.symm), hb.ok, hb.bel.trans (hf.to (fun x hx => by rw [show x = M from hx]; exact hlo) hb.bel.size), hb.lo⟩, hm, h.lo, h.mb⟩
theorem EvW.more (h : EvW w q b M k s K P W) : EvW w q b M (k + 1) s K P W := ⟨h.up, h.map.more (Nat.le_succ _), h.lo, h.mb⟩
end Go.Proofs.Ytmpooeflbfggbaa
