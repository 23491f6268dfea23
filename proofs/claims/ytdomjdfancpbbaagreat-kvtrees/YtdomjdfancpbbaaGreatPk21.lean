/-
  KvRef6: The document's cache beside one of package kv: it lies apart from what the other's calls turn (RcL); its calls turn blocks of its own types alone (DocG).
  KvTools: What the walks of layer 14's statements carry: both caches side by side (KT), a step's text (TxO), the program's cache alone (KO); a list of ints cut.
  KvAll: A list of texts that a statement of layer 14 keeps (AllO), beside the program's cache; an append to it.
-/
import Derived.Test.YtdomjdfancpbbaaGreatPk20
import Derived.Test.YtdomjdfancpbbaaGreatPk12
import Derived.Test.YtdomjdfancpbbaaGreatPk19
namespace Go.Proofs.YtdomjdfancpbbaaGreat
open Go.RowKit
set_option linter.unusedVariables false
set_option maxRecDepth 1000000

theorem RcAtP.mono {P Q : Nat → Prop} {W : World} {B : Nat} {pg sz tm : Int} {v : Value} {qs : List Hu} {es : List En} (h : RcAtP P W B pg sz tm v qs es) (hQ : ∀ k, k < W.heap.size → P k → Q k) : RcAtP Q W B pg sz tm v qs es :=
  ⟨h.var, h.own, h.len, h.used, h.rows, h.ints, h.short, h.few, fun i hi p hp => by
    obtain ⟨cur, fz, hc⟩ := h.ints i hi p hp
    exact hQ _ (lt_of_block hc) (h.off i hi p hp)⟩
/-- What turns elsewhere leaves it. -/
theorem RcAtP.fb {F : Nat → Prop} {W W' : World} {B : Nat} {pg sz tm : Int} {v : Value} {qs : List Hu} {es : List En} (h : RcAtP (fun k => ¬ F k) W B pg sz tm v qs es) (hb : Fb F W W') (hB : ¬ F B) (hv : ∀ b, v.ownBlock = some b → ¬ F b) : RcAtP (fun k => ¬ F k) W' B pg sz tm v qs es := by
  have hrow : ∀ i, i < es.length → ∀ p, (qe qs i).1.1 = some p → W'.heap[p.block]? = W.heap[p.block]? := fun i hi p hp => by
    obtain ⟨cur, fz, hc⟩ := h.ints i hi p hp
    exact hb.block _ (lt_of_block hc) (h.off i hi p hp)
  refine ⟨hb.one h.var hB, own_blk h.own fun b hb' => hb.block b (h.own.lt b hb').2 (hv b hb'), h.len, h.used, fun i hi => (h.rows i hi).blk (hrow i hi), fun i hi p hp => ?_, h.short, h.few, h.off⟩
  obtain ⟨cur, fz, hc⟩ := h.ints i hi p hp
  exact ⟨cur, fz, (hrow i hi p hp).trans hc⟩
/-- The document's cache in block B, apart from the blocks F, all of it new since lo. -/
def RcL (W : World) (B : Nat) (pg sz : Nat) (tm : Int) (es : List En) (F : Nat → Prop) (lo : Nat) : Prop :=
  ∃ v qs, RcAtP (fun k => ¬ F k) W B pg sz tm v qs es ∧ lo ≤ B ∧ ¬ F B ∧ ∀ b, v.ownBlock = some b → lo ≤ b ∧ ¬ F b
/-- Only blocks of the document's own types turn, none of them older than lo. -/
def DocG (lo : Nat) (w w' : World) : Prop := ∃ G : Nat → Prop, Fb G w w' ∧ (∀ k, G k → DocB w k) ∧ ∀ k, G k → lo ≤ k
theorem DocG.to {lo : Nat} {w w' : World} (h : DocG lo w w') (hl : lo ≤ w.heap.size) : Below lo w w' := by
  obtain ⟨G, h1, h2, h3⟩ := h
  exact h1.to h3 hl
theorem DocG.one {lo : Nat} {w w' : World} (h : DocG lo w w') {k : Nat} {cur : Array Value} {t : TypeId} {fz : Nat × Nat} (hk : w.heap[k]? = some (.cells cur t fz)) (h1 : t ≠ 32) (h2 : t ≠ 48) (h3 : t ≠ 34) : w'.heap[k]? = some (.cells cur t fz) := by
  obtain ⟨G, g1, g2, g3⟩ := h
  refine g1.one hk fun hg => ?_
  obtain ⟨cur', t', fz', e1, e2⟩ := g2 k hg
  rw [hk] at e1
  simp at e1
  obtain ⟨_, rfl, _⟩ := e1
  rcases e2 with e | e | e
  · exact h1 e
  · exact h2 e
  · exact h3 e
theorem DocG.kpl {lo : Nat} {w w' : World} (h : DocG lo w w') : KpL w w' := fun k cur t fz hk ht => h.one hk (by rintro rfl; revert ht; decide) (by rintro rfl; revert ht; decide) (by rintro rfl; revert ht; decide)
theorem DocG.kpi {lo : Nat} {w w' : World} (h : DocG lo w w') : KpI w w' := fun k cur fz hk => h.one hk (by decide) (by decide) (by decide)
theorem RcL.below {W W' : World} {B pg sz : Nat} {tm : Int} {es : List En} {F : Nat → Prop} {lo : Nat} (h : RcL W B pg sz tm es F lo) (hb : Below W.heap.size W W') : RcL W' B pg sz tm es F lo := by
  obtain ⟨v, qs, h1, h2⟩ := h
  exact ⟨v, qs, h1.below hb, h2⟩
theorem RcL.few {W : World} {B pg sz : Nat} {tm : Int} {es : List En} {F : Nat → Prop} {lo : Nat} (h : RcL W B pg sz tm es F lo) : es.length ≤ 1000 := by
  obtain ⟨v, qs, h1, _⟩ := h
  exact h1.few
/-- Behind a call of the other cache. -/
theorem RcL.prog {W W' : World} {B pg sz : Nat} {tm : Int} {es : List En} {F F' : Nat → Prop} {lo : Nat} (h : RcL W B pg sz tm es F lo) (hb : Fb F W W') (hF : ∀ k, F' k → F k ∨ W.heap.size ≤ k) : RcL W' B pg sz tm es F' lo := by
  obtain ⟨v, qs, h1, h2, h3, h4⟩ := h
  have hno : ∀ k, k < W.heap.size → ¬ F k → ¬ F' k := fun k hk hn hf => (hF k hf).elim hn fun h => by omega
  have g := h1.fb hb h3 fun b hb' => (h4 b hb').2
  refine ⟨v, qs, ⟨g.var, g.own, g.len, g.used, g.rows, g.ints, g.short, g.few, fun i hi p hp => ?_⟩, h2, hno B (lt_of_block h1.var) h3, fun b hb' => ⟨(h4 b hb').1, hno b (h1.own.lt b hb').2 (h4 b hb').2⟩⟩
  obtain ⟨cur, fz, hc⟩ := h1.ints i hi p hp
  exact hno _ (lt_of_block hc) (h1.off i hi p hp)
theorem rcF_doc {P : Nat → Prop} {W : World} {B : Nat} {pg sz tm : Int} {v : Value} {qs : List Hu} {es : List En} (h : RcAtP P W B pg sz tm v qs es) : ∀ k, rcF B v k → DocB W k := by
  rintro k (rfl | hk)
  · exact ⟨_, _, _, h.var, .inl rfl⟩
  · rcases id h.own.2 with ⟨hv, _⟩ | ⟨g, cap, cur, hv, _, hg, _⟩
    · rw [hv] at hk; cases hk
    · rw [hv] at hk; cases hk; exact ⟨_, _, _, hg, .inr (.inl rfl)⟩
theorem rfindL {B pg sz : Nat} {tm : Int} {es : List En} {F : Nat → Prop} {lo : Nat} (a : Option Addr) (nt cap : Nat) (ts : List Int) (w : World) (h : RcL w B pg sz tm es F lo) (ht : Reads .i64 w a nt cap ts) (hta : BlN w a) (hn : nt ≤ 1000) (h0 : 0 ≤ tm) (h1 : tm ≤ 100000) :
    Calls Tryz.prog 13 #[.pointer (some ⟨B, 0, none⟩), .slice a nt cap] w fun e w' => e = .returned (.int .i64 (bestK ts es es.length)) ∧ RcL w' B pg sz (tm + 1) (useK (tm + 1) ts es es.length) F lo ∧ DocG lo w w' := by
  obtain ⟨v, qs, g1, g2, g3, g4⟩ := h
  refine (rfind_any a nt cap ts w g1 ht hta hn h0 h1).mono ?_
  rintro e w' ⟨he, ⟨qs', hR⟩, hk, hf⟩
  exact ⟨he, ⟨v, qs', hR, g2, g3, g4⟩, rcF B v, hf, rcF_doc g1, fun k hk' => hk'.elim (fun e => by rw [e]; exact g2) fun e => (g4 k e).1⟩
theorem rputL {B pg sz : Nat} {tm : Int} {es : List En} {F : Nat → Prop} {lo : Nat} (a : Option Addr) (nt cap : Nat) (ts : List Int) (w : World) (h : RcL w B pg sz tm es F lo) (hF : ∀ k, F k → k < w.heap.size) (hlo : lo ≤ w.heap.size) (ht : Reads .i64 w a nt cap ts) (hta : BlN w a) (hn : nt ≤ 1000) (h0 : 0 ≤ tm) (h1 : tm ≤ 100000) (hs : 1 ≤ sz) (hs2 : sz ≤ 1000) (hp : pg ≤ 1000) (hl : es.length ≤ pg) :
    Calls Tryz.prog 20 #[.pointer (some ⟨B, 0, none⟩), .slice a nt cap] w fun e w' => e = .returned (.int .i64 (putK pg (tm + 1) sz ts es (nt / sz)).2.1) ∧ RcL w' B pg sz (tm + 1) (putK pg (tm + 1) sz ts es (nt / sz)).1 F lo ∧ DocG lo w w' := by
  obtain ⟨v, qs, g1, g2, g3, g4⟩ := h
  refine (rput_any a nt cap ts w g1 ht hta hn h0 h1 hs hs2 (by omega) (by omega) fun k hk hf => by have := hF k hf; omega).mono ?_
  rintro e w' ⟨he, v', qs', hR, hv, hk, hf⟩
  refine ⟨he, ⟨v', qs', hR, g2, g3, fun b hb => ?_⟩, rcF B v, hf, rcF_doc g1, fun k hk' => hk'.elim (fun e => by rw [e]; exact g2) fun e => (g4 k e).1⟩
  rcases hv b hb with h | h
  · exact g4 b h
  · exact ⟨by omega, fun hf' => by have := hF b hf'; omega⟩
theorem rhasL {B pg sz : Nat} {tm : Int} {es : List En} {F : Nat → Prop} {lo : Nat} (a : Option Addr) (nt cap : Nat) (ts : List Int) (w : World) (h : RcL w B pg sz tm es F lo) (ht : Reads .i64 w a nt cap ts) (hn : nt ≤ 1000) :
    Calls Tryz.prog 23 #[.pointer (some ⟨B, 0, none⟩), .slice a nt cap] w fun e w' => e = .returned (.bool (decide (0 ≤ plcZ es ts))) ∧ Below w.heap.size w w' := by
  obtain ⟨v, qs, g1, _⟩ := h
  exact rhas_any a nt cap ts w g1 ht hn
/-- Its list is let go. -/
theorem RcL.clear {W : World} {B pg sz : Nat} {tm : Int} {es : List En} {F : Nat → Prop} {lo : Nat} (h : RcL W B pg sz tm es F lo) : RcL (W.setCell ⟨B, 3, none⟩ (.slice none 0 0)) B pg sz tm [] F lo ∧ DocG lo W (W.setCell ⟨B, 3, none⟩ (.slice none 0 0)) ∧ W.cell? ⟨B, 3, none⟩ ≠ none ∧ W.frozen? ⟨B, 3, none⟩ = false := by
  obtain ⟨v, qs, g1, g2, g3, g4⟩ := h
  refine ⟨⟨.slice none 0 0, [], ⟨row_set g1.var, World.ownsRow_nil _ _ _ _, rfl, fun i hi => absurd hi (by simp), fun i hi => absurd hi (by simp), fun i hi => absurd hi (by simp), fun i hi => absurd hi (by simp), by simp, fun i hi => absurd hi (by simp)⟩, g2, g3, fun b hb => by cases hb⟩, ⟨fun k => k = B, Fb.set (F := fun k => k = B) (p := ⟨B, 3, none⟩) rfl _, fun k hk => by rw [hk]; exact ⟨_, _, _, g1.var, .inl rfl⟩, fun k hk => by rw [hk]; exact g2⟩, by rw [g1.cells.2.2.2]; simp, frozen_of_row _ _ 3 _ _ g1.var⟩
theorem rcl_new {w : World} {pg sz : Nat} {F : Nat → Prop} {lo B : Nat} (hB : w.heap.size = B) (hF : ∀ k, F k → k < w.heap.size) (hlo : lo ≤ w.heap.size) : RcL (w.alloc (.cells #[.int .i64 pg, .int .i64 sz, .int .i64 0, .slice none 0 0] 32)) B pg sz 0 [] F lo := by
  subst hB
  exact ⟨.slice none 0 0, [], ⟨heap_alloc_new w _, World.ownsRow_nil _ _ _ _, rfl, fun i hi => absurd hi (by simp), fun i hi => absurd hi (by simp), fun i hi => absurd hi (by simp), fun i hi => absurd hi (by simp), by simp, fun i hi => absurd hi (by simp)⟩, hlo, fun hf => by have := hF _ hf; omega, fun b hb => by cases hb⟩
/-- Its list, as it is read. -/
theorem RcL.list {W : World} {B pg sz : Nat} {tm : Int} {es : List En} {F : Nat → Prop} {lo : Nat} (h : RcL W B pg sz tm es F lo) : ∃ av cv, W.cell? ⟨B, 3, none⟩ = some (.slice av es.length cv) ∧ es.length ≤ cv ∧ cv ≤ 9223372036854775807 ∧
    (∀ W' : World, Below W.heap.size W W' → W'.cell? ⟨B, 3, none⟩ = some (.slice av es.length cv)) ∧
    ∀ W' : World, Below W.heap.size W W' → ∀ i, i < es.length → ∃ (g : Nat) (q : Hd) (u : Int), av = some ⟨g, 0, none⟩ ∧ W'.cell? ⟨g, i * 2, none⟩ = some (.slice q.1 q.2.1 q.2.2) ∧ W'.cell? ⟨g, i * 2 + 1, none⟩ = some (.int .i64 u) ∧ Reads .i64 W' q.1 q.2.1 q.2.2 (en es i).1 := by
  obtain ⟨v, qs, g1, g2, g3, g4⟩ := h
  obtain ⟨av, cv, rfl, hc1, hc2⟩ := g1.isSl
  refine ⟨av, cv, g1.cells.2.2.2, hc1, hc2, fun W' hb => (g1.below hb).cells.2.2.2, fun W' hb i hi => ?_⟩
  have g := g1.below hb
  obtain ⟨g', cap', cur, hv, _⟩ := g.isSome hi
  have e : av = some ⟨g', 0, none⟩ := by cases hv; rfl
  subst e
  obtain ⟨a1, a2⟩ := g.at hi
  exact ⟨g', _, _, rfl, a1, a2, g.rows i hi⟩
end Go.Proofs.YtdomjdfancpbbaaGreat
namespace Go.Proofs.YtdomjdfancpbbaaGreat
open Go.RowKit
set_option linter.unusedVariables false
set_option maxRecDepth 1000000

/-- A step's text: each of its tokens is a number of 64 bits. -/
theorem tk_txt {ys ts : List Int} (h : ∀ i, i < ys.length → 0 ≤ ys[i]?.getD 0 ∧ ys[i]?.getD 0 < 4) (e : 0 :: ys = ts) : Tk ts := by
  subst e
  intro x hx
  rcases List.mem_cons.1 hx with rfl | hx
  · omega
  · obtain ⟨i, hi, rfl⟩ := List.getElem_of_mem hx
    have := h i hi
    rw [List.getElem?_eq_getElem hi] at this
    simp at this
    omega
/-- The program's cache, new since w1. -/
structure KO (w1 W : World) (gc N S : Nat) (tm : Int) (es : List En) (F : Nat → Prop) : Prop where
  kv : KvAt W (some ⟨gc, 0, none⟩) c14 N S tm es F
  lo : ∀ x, F x → w1.heap.size ≤ x
  up : Below w1.heap.size w1 W
theorem KO.below {w1 W W' : World} {gc N S : Nat} {tm : Int} {es : List En} {F : Nat → Prop} (h : KO w1 W gc N S tm es F) (hb : Below W.heap.size W W') : KO w1 W' gc N S tm es F := ⟨h.kv.below hb, h.lo, h.up.trans (hb.mono h.up.size)⟩
/-- A text of the call's own. -/
structure TxO (W : World) (F : Nat → Prop) (g n cap : Nat) (ts : List Int) : Prop where
  own : OwnK 3 0 g n cap ts W
  ng : ¬ F g
theorem TxO.below {W W' : World} {F : Nat → Prop} {g n cap : Nat} {ts : List Int} (h : TxO W F g n cap ts) (hb : Below W.heap.size W W') : TxO W' F g n cap ts := ⟨h.own.stays hb, h.ng⟩
theorem TxO.reads {W : World} {F : Nat → Prop} {g n cap : Nat} {ts : List Int} (h : TxO W F g n cap ts) : Reads .i64 W (some ⟨g, 0, none⟩) n cap ts := h.own.reads
theorem OwnK.bln {base g n cap : Nat} {ts : List Int} {W : World} (h : OwnK 3 base g n cap ts W) : BlN W (some ⟨g, 0, none⟩) := own_bln' h _ _ _ rfl
theorem TxO.bln {W : World} {F : Nat → Prop} {g n cap : Nat} {ts : List Int} (h : TxO W F g n cap ts) : BlN W (some ⟨g, 0, none⟩) := h.own.bln
theorem TxO.off {W : World} {F : Nat → Prop} {g n cap : Nat} {ts : List Int} (h : TxO W F g n cap ts) : ∀ q : Addr, some (⟨g, 0, none⟩ : Addr) = some q → ¬ F q.block := fun q hq => by cases hq; exact h.ng
theorem TxO.turn {W W' : World} {F F' : Nat → Prop} {g n cap : Nat} {ts : List Int} (h : TxO W F g n cap ts) (hF : ∀ k, F' k → F k ∨ W.heap.size ≤ k) (hb : Fb F W W') : TxO W' F' g n cap ts :=
  ⟨h.own.same (hb.block g h.own.lt h.ng), fun hf => (hF g hf).elim h.ng fun hl => by have := h.own.lt; omega⟩
theorem OwnK.kpi {base g n cap : Nat} {ts : List Int} {W W' : World} (h : OwnK 3 base g n cap ts W) (hk : KpI W W') : OwnK 3 base g n cap ts W' := by
  obtain ⟨cur, fz, hc⟩ := h.bln ⟨g, 0, none⟩ rfl
  exact h.same ((hk _ _ _ hc).trans hc.symm)
theorem TxO.doc {W W' : World} {F : Nat → Prop} {lo g n cap : Nat} {ts : List Int} (h : TxO W F g n cap ts) (hD : DocG lo W W') : TxO W' F g n cap ts := ⟨h.own.kpi hD.kpi, h.ng⟩
theorem KO.turn {w1 W W' : World} {gc N S : Nat} {tm tm' : Int} {es es' : List En} {F : Nat → Prop} (h : KO w1 W gc N S tm es F) (hG : KvG W F (some ⟨gc, 0, none⟩) c14 N S tm' es' W') :
    ∃ F', KO w1 W' gc N S tm' es' F' ∧ (∀ k, F' k → F k ∨ W.heap.size ≤ k) ∧ Fb F W W' := by
  obtain ⟨F', hK, hF, hb⟩ := hG
  exact ⟨F', ⟨hK, fun x hx => (hF x hx).elim (h.lo x) fun hl => Nat.le_trans h.up.size hl, h.up.trans (hb.to h.lo h.up.size)⟩, hF, hb⟩
theorem KO.doc {w1 W W' : World} {gc N S : Nat} {tm : Int} {es : List En} {F : Nat → Prop} (h : KO w1 W gc N S tm es F) (hD : DocG w1.heap.size W W') : KO w1 W' gc N S tm es F := by
  refine ⟨?_, h.lo, h.up.trans (hD.to h.up.size)⟩
  obtain ⟨G, h1, h2, h3⟩ := hD
  exact h.kv.fb h1 h2
theorem KO.tx {w1 W W' : World} {gc N S : Nat} {tm : Int} {es : List En} {F : Nat → Prop} (h : KO w1 W gc N S tm es F) {g n cap : Nat} {ts : List Int} (ho : OwnK 3 W.heap.size g n cap ts W') : TxO W' F g n cap ts := ⟨ho.low (Nat.zero_le _), fun hf => by have := h.kv.old g hf; have := ho.base; omega⟩
/-- Both caches. -/
structure KT (w1 W : World) (gc B N S : Nat) (tm : Int) (es : List En) (tm2 : Int) (es2 : List En) (F : Nat → Prop) : Prop where
  o : KO w1 W gc N S tm es F
  rc : RcL W B N S tm2 es2 F w1.heap.size
theorem KT.below {w1 W W' : World} {gc B N S : Nat} {tm tm2 : Int} {es es2 : List En} {F : Nat → Prop} (h : KT w1 W gc B N S tm es tm2 es2 F) (hb : Below W.heap.size W W') : KT w1 W' gc B N S tm es tm2 es2 F := ⟨h.o.below hb, h.rc.below hb⟩
theorem KT.turn {w1 W W' : World} {gc B N S : Nat} {tm tm' tm2 : Int} {es es' es2 : List En} {F : Nat → Prop} (h : KT w1 W gc B N S tm es tm2 es2 F) (hG : KvG W F (some ⟨gc, 0, none⟩) c14 N S tm' es' W') :
    ∃ F', KT w1 W' gc B N S tm' es' tm2 es2 F' ∧ (∀ k, F' k → F k ∨ W.heap.size ≤ k) ∧ Fb F W W' := by
  obtain ⟨F', h1, h2, h3⟩ := h.o.turn hG
  exact ⟨F', ⟨h1, h.rc.prog h3 h2⟩, h2, h3⟩
theorem KT.doc {w1 W W' : World} {gc B N S : Nat} {tm tm2 tm3 : Int} {es es2 es3 : List En} {F : Nat → Prop} (h : KT w1 W gc B N S tm es tm2 es2 F) (hR : RcL W' B N S tm3 es3 F w1.heap.size) (hD : DocG w1.heap.size W W') : KT w1 W' gc B N S tm es tm3 es3 F := ⟨h.o.doc hD, hR⟩
/-- A list of ints cut. -/
theorem cutI_from (a : Addr) (ha : a.spot = none) (n cap m : Nat) (hm : m ≤ n) (hc : n ≤ cap) (hcap : cap ≤ 9223372036854775807) : ∃ A : Addr, (∀ W : World,
    (Instr.sliceAt 34 (.slice (some a) n cap) (some (.int .i64 (m : Int))) none none).run Tryz.prog W = .ok (.slice (some A) (n - m) (cap - m)) W) ∧ (m < n → A = ⟨a.block, a.off + m, none⟩) := by
  obtain ⟨j0, ji, jz0, jz1, jz2⟩ := info_parts Tryz.info3
  obtain ⟨b, off, spot⟩ := a
  simp only at ha
  subst ha
  have h1 : ∀ W : World, (Instr.sliceBound (.int .i64 (m : Int)) n .sliceB).run Tryz.prog W = .ok m W := fun W => by
    rw [run_sliceBound W .i64 (m : Int) n _ (by omega) (by omega)]; congr 1
  refine ⟨if cap - m = 0 then ⟨b, off, none⟩ else ⟨b, off + m, none⟩, fun W => ?_, fun h => by rw [if_neg (by omega)]⟩
  simp [Instr.sliceAt, Instr.slice, run_underlying Tryz.underlying34, Instr.sliceBounds, h1, sizeOf, typeInfo, ji, jz1, Addr.add]
  by_cases h2 : cap = m
  · rw [if_pos h2, if_pos (by omega)]
  · have h5 : ¬ cap - m = 0 := by omega
    rw [if_neg h2, if_neg h5]
    by_cases h3 : m = 0
    · rw [if_pos h3, h3]; rfl
    · rw [if_neg h3]
theorem Reads.from {W : World} {b off n cap : Nat} {ts : List Int} (h : Reads .i64 W (some ⟨b, off, none⟩) n cap ts) {m : Nat} (hm : m ≤ n) {A : Addr} (hA : m < n → A = ⟨b, off + m, none⟩) : Reads .i64 W (some A) (n - m) (cap - m) (ts.drop m) := by
  by_cases hl : m < n
  · rw [hA hl]; exact h.tail hl
  · have hz := h.size
    have hr := h.room
    have hc := h.most
    exact ⟨by rw [List.length_drop]; omega, by omega, by omega, (fun e => by cases e), fun i hi => by omega⟩
theorem FndS.keep {W W' : World} {q : Option Addr} {c : Cf} {ts : List Int} {n : Int} (h : FndS W q c ts n) (hk : KpL W W') (hi : KpI W W') : FndS W' q c ts n := by
  rcases h with h | ⟨h1, h2⟩
  · exact .inl h
  · exact .inr ⟨h1, h2.keep hk hi⟩
theorem FndS.below {W W' : World} {q : Option Addr} {c : Cf} {ts : List Int} {n : Int} (h : FndS W q c ts n) (hb : Below W.heap.size W W') : FndS W' q c ts n := h.keep (KpL.of hb) (KpI.of hb)
theorem dtok_none (w : World) : Calls Tryz.prog 16 #[.pointer none] w fun e w' => e = .returned (.slice none 0 0) ∧ Below w.heap.size w w' := by
  go_enter Tryz.func16, Tryz.ntmps16
  go_wp2
  go_ret
  exact ⟨rfl, Below.refl _ _⟩
theorem fnd_len {W : World} {q : Option Addr} {c : Cf} {ts : List Int} {n : Nat} (h : FndS W q c ts n) (hn : n ≤ ts.length) : Calls Tryz.prog 14 #[.pointer q] W fun e w' => e = .returned (.int .i64 n) ∧ Below W.heap.size W w' := by
  rcases h with ⟨h1, rfl⟩ | ⟨h1, h2⟩
  · rw [h1]; exact dlen_nil W
  · obtain ⟨F, h3⟩ := h2.at
    have := dlen_any _ _ _ _ h3
    rw [Int.toNat_natCast, List.length_take, Nat.min_eq_left hn] at this
    exact this
theorem fnd_tok {W : World} {q : Option Addr} {c : Cf} {ts : List Int} {n : Nat} (h : FndS W q c ts n) (hn : n ≤ ts.length) : Calls Tryz.prog 16 #[.pointer q] W fun e w' => Gives W n (ts.take n) e w' := by
  rcases h with ⟨h1, rfl⟩ | ⟨h1, h2⟩
  · have h0 : n = 0 := by omega
    subst h0
    exact (dtok_none W).mono fun e w' ⟨he, hb⟩ => ⟨none, 0, he, Reads.nil _ _, hb⟩
  · obtain ⟨F, h3⟩ := h2.at
    have := dtok_any _ _ _ _ h3
    rw [Int.toNat_natCast, List.length_take, Nat.min_eq_left hn] at this
    exact this
end Go.Proofs.YtdomjdfancpbbaaGreat
namespace Go.Proofs.YtdomjdfancpbbaaGreat
open Go.RowKit
set_option linter.unusedVariables false
set_option maxRecDepth 1000000

/-- A list of texts of the call's own. -/
structure AllO (W : World) (F : Nat → Prop) (lo : Nat) (v : Value) (hs : List Hd) (tss : List (List Int)) : Prop where
  own : W.ownsRow lo 34 1 v hs.length (hs.map hdV)
  len : tss.length = hs.length
  rows : ∀ i, i < hs.length → Reads .i64 W (hd hs i).1 (hd hs i).2.1 (hd hs i).2.2 (tss[i]?.getD [])
  bln : ∀ i, i < hs.length → BlN W (hd hs i).1
  off : ∀ i, i < hs.length → ∀ p, (hd hs i).1 = some p → ¬ F p.block
  short : ∀ i, i < hs.length → (tss[i]?.getD []).length ≤ 12
  tk : ∀ i, i < hs.length → Tk (tss[i]?.getD [])
theorem allo_nil (W : World) (F : Nat → Prop) (lo : Nat) : AllO W F lo (.slice none 0 0) [] [] := ⟨World.ownsRow_nil _ _ _ _, rfl, fun i hi => absurd hi (by simp), fun i hi => absurd hi (by simp), fun i hi => absurd hi (by simp), fun i hi => absurd hi (by simp), fun i hi => absurd hi (by simp)⟩
theorem AllO.below {W W' : World} {F : Nat → Prop} {lo : Nat} {v : Value} {hs : List Hd} {tss : List (List Int)} (h : AllO W F lo v hs tss) (hb : Below W.heap.size W W') : AllO W' F lo v hs tss :=
  ⟨own_below h.own hb, h.len, fun i hi => (h.rows i hi).below hb, fun i hi => (h.bln i hi).below hb, h.off, h.short, h.tk⟩
theorem AllO.doc {W : World} {F : Nat → Prop} {lo : Nat} {v : Value} {hs : List Hd} {tss : List (List Int)} (h : AllO W F lo v hs tss) {b : Nat} (hb : v.ownBlock = some b) : DocB W b := by
  obtain ⟨cur, hc⟩ := own_type h.own hb
  exact ⟨cur, _, _, hc, .inr (.inr rfl)⟩
theorem AllO.turn {W W' : World} {F F' : Nat → Prop} {lo : Nat} {v : Value} {hs : List Hd} {tss : List (List Int)} (h : AllO W F lo v hs tss) (hF : ∀ k, F' k → F k ∨ W.heap.size ≤ k) (hb : Fb F W W') (hnd : ∀ k, F k → ¬ DocB W k) : AllO W' F' lo v hs tss := by
  have hrow : ∀ i, i < hs.length → ∀ p, (hd hs i).1 = some p → p.block < W.heap.size ∧ W'.heap[p.block]? = W.heap[p.block]? := fun i hi p hp => by
    obtain ⟨cur, fz, hc⟩ := h.bln i hi p hp
    exact ⟨lt_of_block hc, hb.block _ (lt_of_block hc) (h.off i hi p hp)⟩
  refine ⟨own_blk h.own fun b hb' => hb.block b (h.own.lt b hb').2 fun hf => hnd b hf (h.doc hb'), h.len, fun i hi => (h.rows i hi).blk fun p hp => (hrow i hi p hp).2, fun i hi p hp => ?_, fun i hi p hp hf => ?_, h.short, h.tk⟩
  · obtain ⟨cur, fz, hc⟩ := h.bln i hi p hp
    exact ⟨cur, fz, (hrow i hi p hp).2.trans hc⟩
  · rcases hF _ hf with h' | h'
    · exact h.off i hi p hp h'
    · have := (hrow i hi p hp).1; omega
theorem hd_snoc (hs : List Hd) (q : Hd) (i : Nat) (hi : i ≤ hs.length) : hd (hs ++ [q]) i = if i < hs.length then hd hs i else q := by
  unfold hd
  split
  · rw [List.getElem?_append_left (by assumption)]
  · rw [List.getElem?_append_right (by omega), show i - hs.length = 0 by omega]; rfl
theorem tss_snoc (tss : List (List Int)) (q : List Int) (i : Nat) (hi : i ≤ tss.length) : (tss ++ [q])[i]?.getD [] = if i < tss.length then tss[i]?.getD [] else q := by
  split
  · rw [List.getElem?_append_left (by assumption)]
  · rw [List.getElem?_append_right (by omega), show i - tss.length = 0 by omega]; rfl
theorem Tryz.infoSl : (Tryz.prog.info? 34).map (fun i => (i.zero, i.size, i.bytes)) = some (some (.slice none 0 0), 1, 24) := by kernel_rfl
theorem append_all (w : World) {ops : Array Oper} {rest : List Oper} {o : Oper} {a : Act} {Q : Exit → Act → World → Prop} (hgd : o.guard = none) (s x : Operand)
    (ho : o.op = .call { callee := .builtin .append, args := #[s, x], argTypes := #[57, 57] })
    (F : Nat → Prop) (lo : Nat) (v : Value) (hs : List Hd) (tss : List (List Int)) (hv : a.eval s = v) (h : AllO w F lo v hs tss) (hlo : lo ≤ w.heap.size) (hn : hs.length ≤ 1000) (n : Nat) (hln : hs.length = n)
    (B : Nat) (q : Hd) (hx : a.eval x = .slice (some ⟨B, 0, none⟩) 1 1) (hc : w.cell? ⟨B, 0, none⟩ = some (hdV q)) (ts : List Int) (hq : Reads .i64 w q.1 q.2.1 q.2.2 ts) (hqb : BlN w q.1) (hqo : ∀ p, q.1 = some p → ¬ F p.block) (hql : ts.length ≤ 12) (hqk : Tk ts)
    (hk : ∀ (a' : Option Addr) (c' : Nat) (w' : World), AllO w' F lo (.slice a' (n + 1) c') (hs ++ [q]) (tss ++ [ts]) → n + 1 ≤ c' ∧ c' ≤ 9223372036854775807 → DocG lo w w' → wpList Tryz.prog ops Q rest (a.put o.dst (.slice a' (n + 1) c')) w') : wpList Tryz.prog ops Q (o :: rest) a w := by
  subst hln
  obtain ⟨i, hi, hz0, hz1, hz2⟩ := info_parts Tryz.infoSl
  refine wpList_append_own w hgd s x 57 ho lo 34 i (.slice none 0 0) 1 24 Tryz.underlying57 hi hz0 hz1 hz2 rfl (by decide) v hs.length _ hv h.own ⟨B, 0, none⟩ 1 1 [hdV q] hx rfl ?_ ?_ (by unfold maxLen; omega) (by omega) hlo ?_
  · intro j u hu
    match j, hu with
    | 0, hu => simp at hu; subst hu; exact hc
    | j + 1, hu => simp at hu
  · intro u hu
    simp at hu
    subst hu
    rfl
  · intro v' w' hO hg _
    have hD : DocG lo w w' := ⟨fun k => v.ownBlock = some k, ⟨hg.os, hg.tape, hg.output, hg.size, fun k hk' hn' => hg.block k hk' fun e => hn' e.symm⟩, fun k hk' => h.doc hk', fun k hk' => (h.own.lt k hk').1⟩
    have hki := hD.kpi
    have hl : (hs ++ [q]).length = hs.length + 1 := by simp
    rcases id hO.2 with ⟨_, h0⟩ | ⟨g, cap, cur, hv', _, _, hnc, hm, _⟩
    · omega
    · subst hv'
      refine hk _ _ _ ⟨by rw [hl, List.map_append]; exact hO, by simp [h.len], fun j hj => ?_, fun j hj => ?_, fun j hj p hp => ?_, fun j hj => ?_, fun j hj => ?_⟩ ⟨hnc, by unfold maxLen at hm; omega⟩ hD
      · rw [hl] at hj
        rw [hd_snoc _ _ _ (by omega), tss_snoc _ _ _ (by rw [h.len]; omega), h.len]
        split
        · exact ((h.rows j (by assumption)).kpi (h.bln j (by assumption)) hki).1
        · exact (hq.kpi hqb hki).1
      · rw [hl] at hj
        rw [hd_snoc _ _ _ (by omega)]
        split
        · exact ((h.rows j (by assumption)).kpi (h.bln j (by assumption)) hki).2
        · exact (hq.kpi hqb hki).2
      · rw [hl] at hj
        rw [hd_snoc _ _ _ (by omega)] at hp
        split at hp
        · exact h.off j (by assumption) p hp
        · exact hqo p hp
      · rw [hl] at hj
        rw [tss_snoc _ _ _ (by rw [h.len]; omega), h.len]
        split
        · exact h.short j (by assumption)
        · exact hql
      · rw [hl] at hj
        rw [tss_snoc _ _ _ (by rw [h.len]; omega), h.len]
        split
        · exact h.tk j (by assumption)
        · exact hqk
/-- A text of the list, as it is read. -/
theorem AllO.at {W : World} {F : Nat → Prop} {lo n cap : Nat} {a : Option Addr} {hs : List Hd} {tss : List (List Int)} (h : AllO W F lo (.slice a n cap) hs tss) {j : Nat} (hj : j < hs.length) : ∃ g, a = some ⟨g, 0, none⟩ ∧ W.cell? ⟨g, j, none⟩ = some (.slice (hd hs j).1 (hd hs j).2.1 (hd hs j).2.2) := by
  rcases id h.own.2 with ⟨_, h0⟩ | ⟨g, c, cur, hv, _⟩
  · omega
  · cases hv
    refine ⟨g, rfl, ?_⟩
    rw [World.ownsRow.cellAt h.own j (by simpa using hj)]
    unfold hd
    simp [hj, hdV]
end Go.Proofs.YtdomjdfancpbbaaGreat
