/-
  AThrs: What the places of a text are in the document's way (plK, plV), and how a memory has them; a row of places that grows turns no memory.
  Ups: Contracts: heap.up and heap.down over the marks.
-/
import Derived.Test.YtjgggialnegddaaGreatPx01
import Derived.Test.YtjgggialnegddaaGreatPx03
namespace Go.Proofs.YtjgggialnegddaaGreat
open Go.RowKit
set_option linter.unusedVariables false
set_option maxRecDepth 1000000

/-- A place's keys, layer by layer. -/
def plK (c : Cf) (L : Nat) (xs : List (List Int)) (i : Nat) : List (List Int) := tblK (fun j => keyL c j (thrX c (memL c L xs i) (xs[i]?.getD []) j)) L
/-- A place's values. -/
def plV (c : Cf) (L : Nat) (xs : List (List Int)) (i : Nat) : List (List Int) := tblK (fun j => valL c j (thrX c (memL c L xs i) (xs[i]?.getD []) j)) L
theorem memL_rows (c : Cf) (L : Nat) (xs : List (List Int)) (k : Nat) {j : Nat} (hj : j < L) : (kv (memL c L xs k) j).1 = tblK (fun i => (plK c L xs i)[j]?.getD []) k ∧ (kv (memL c L xs k) j).2 = tblK (fun i => (plV c L xs i)[j]?.getD []) k := by
  induction k with
  | zero => simp only [memL]; rw [noneM_at]; exact ⟨rfl, rfl⟩
  | succ k ih =>
    simp only [memL]
    rw [thrM_at _ _ _ hj]
    simp only
    rw [ih.1, ih.2, ← tblK_snoc, ← tblK_snoc]
    refine ⟨?_, ?_⟩
    · congr 2
      unfold plK
      rw [tblK_at _ hj]
    · congr 2
      unfold plV
      rw [tblK_at _ hj]
theorem flatP_app (ps : List Hp) (x y : Hd) : flatP ps ++ [hdV x, hdV y] = flatP (ps ++ [(x, y)]) := by
  induction ps with
  | nil => rfl
  | cons p r ih => simp only [flatP, List.cons_append, ih]
/-- A row of places of the call's own. -/
structure PlO (W : World) (S : Nat) (v : Value) (k : Nat) (ps : List Hp) (KK VV : Nat → List (List Int)) : Prop where
  own : W.ownsRow S 134 2 v k (flatP ps)
  rows : ∀ i, i < k → TbH W (pk ps i).1 (KK i) ∧ TbH W (pk ps i).2 (VV i)
theorem PlO.nil (W : World) (S : Nat) (KK VV : Nat → List (List Int)) : PlO W S (.slice none 0 0) 0 [] KK VV := ⟨World.ownsRow_nil _ _ _ _, fun i hi => absurd hi (by omega)⟩
theorem PlO.below {W W' : World} {S : Nat} {v : Value} {k : Nat} {ps : List Hp} {KK VV : Nat → List (List Int)} (h : PlO W S v k ps KK VV) (hb : Below W.heap.size W W') : PlO W' S v k ps KK VV :=
  ⟨own_below h.own hb, fun i hi => ⟨(h.rows i hi).1.below hb, (h.rows i hi).2.below hb⟩⟩
theorem PlO.len {W : World} {S : Nat} {v : Value} {k : Nat} {ps : List Hp} {KK VV : Nat → List (List Int)} (h : PlO W S v k ps KK VV) : ps.length = k := by have := h.own.1; rw [flatP_len] at this; omega
theorem PlO.at {W : World} {S : Nat} {v : Value} {k : Nat} {ps : List Hp} {KK VV : Nat → List (List Int)} (h : PlO W S v k ps KK VV) : ∃ a cap, v = .slice a k cap ∧ PlsAt W a k cap ps KK VV := by
  have hl := h.len
  rcases id h.own.2 with ⟨rfl, rfl⟩ | ⟨g, cap, cur, rfl, hb, hg, hnc, hm, hs', ht⟩
  · exact ⟨none, 0, rfl, ⟨Nat.le_refl _, by omega, fun i hi => absurd hi (by omega), fun i hi => absurd hi (by omega)⟩⟩
  · refine ⟨some ⟨g, 0, none⟩, cap, rfl, ⟨hnc, by unfold maxLen at hm; omega, fun i hi => ⟨g, 0, rfl, ?_, ?_⟩, h.rows⟩⟩
    · rw [Nat.zero_add, World.ownsRow.cellAt h.own (i * 2) (by omega)]
      exact flatP_at0 ps i (by omega)
    · rw [Nat.zero_add, World.ownsRow.cellAt h.own (i * 2 + 1) (by omega)]
      exact flatP_at1 ps i (by omega)
theorem own_typeN {w : World} {base e size n : Nat} {v : Value} {vals : List Value} (ho : w.ownsRow base e size v n vals) {o : Nat} (h : v.ownBlock = some o) : ∃ cur, w.heap[o]? = some (.cells cur e (0, 0)) := by
  rcases ho.2 with ⟨rfl, _⟩ | ⟨g, cap, cur, rfl, _, hg, _⟩
  · simp [Value.ownBlock] at h
  · simp [Value.ownBlock] at h
    subst h
    exact ⟨cur, hg⟩
theorem grown_kpN {w w' : World} {base e size n : Nat} {v : Value} {xs : List Value} (ho : w.ownsRow base e size v n xs) (hg : w.grownBy w' v.ownBlock) : Kp e w w' := by
  intro k cur t fz hk ht
  rw [hg.block k (lt_of_block hk) (fun h => ?_)]
  · exact hk
  · obtain ⟨c, hc⟩ := own_typeN ho h.symm
    rw [hk] at hc
    simp at hc
    exact ht hc.2.1
theorem MemB.keep {T : TypeId} {W W' : World} {B g : Nat} {M : List KV} {ps : List Hp} (h : MemB W B g M ps) (hk : Kp T W W') (h1 : 2 ≠ T) (h2 : 131 ≠ T) (h3 : 229 ≠ T) (h4 : 226 ≠ T) : MemB W' B g M ps := by
  obtain ⟨cur, hc⟩ := h.own.blk
  exact ⟨hk _ _ _ _ h.var h3, own_same h.own ((hk _ _ _ _ hc h4).trans hc.symm), fun i hi => ⟨(h.rows i hi).1.keep hk h1 h2, (h.rows i hi).2.keep hk h1 h2⟩⟩
theorem MemAt.keep {T : TypeId} {W W' : World} {p : Option Addr} {M : List KV} (h : MemAt W p M) (hk : Kp T W W') (h1 : 2 ≠ T) (h2 : 131 ≠ T) (h3 : 229 ≠ T) (h4 : 226 ≠ T) : MemAt W' p M := by
  rcases h with h | ⟨B, g, ps, hp, h⟩
  · exact .inl h
  · exact .inr ⟨B, g, ps, hp, h.keep hk h1 h2 h3 h4⟩
theorem Tryz.infoPl : (Tryz.prog.info? 134).map (fun i => (i.zero, i.size, i.bytes)) = some (some (.agg #[.slice none 0 0, .slice none 0 0]), 2, 48) := by kernel_rfl
/-- An append of one place to a row of places of the call's own. -/
theorem append_place {P : Program} (w : World) {ops : Array Oper} {rest : List Oper} {o : Oper} {a : Act} {Q : Exit → Act → World → Prop} (hgd : o.guard = none) (s x : Operand) (t : TypeId)
    (ho : o.op = .call { callee := .builtin .append, args := #[s, x], argTypes := #[t, t] })
    (base : Nat) (i : TypeInfo) (ht : P.underlying t = some (.slice 134)) (hi : P.info? 134 = some i) (hz : i.zero = some (.agg #[.slice none 0 0, .slice none 0 0])) (hsize : i.size = 2) (hby : i.bytes = 48)
    (v : Value) (n : Nat) (xs : List Value) (hv : a.eval s = v) (hown : w.ownsRow base 134 2 v n xs) (hn : n ≤ 100000)
    (B : Nat) (y z : Hd) (hx : a.eval x = .slice (some ⟨B, 0, none⟩) 1 1) (hc0 : w.cell? ⟨B, 0, none⟩ = some (hdV y)) (hc1 : w.cell? ⟨B, 1, none⟩ = some (hdV z))
    (hbase : base ≤ w.heap.size)
    (h : ∀ v' w', w'.ownsRow base 134 2 v' (n + 1) (xs ++ [hdV y, hdV z]) → w.grownBy w' v.ownBlock → wpList P ops Q rest (a.put o.dst v') w') : wpList P ops Q (o :: rest) a w := by
  refine wpList_append_own w hgd s x t ho base 134 i (.agg #[.slice none 0 0, .slice none 0 0]) 2 48 ht hi hz hsize hby rfl (by decide) v n _ hv hown ⟨B, 0, none⟩ 1 1 [hdV y, hdV z] hx rfl ?_ ?_ (by unfold maxLen; omega) (by omega) hbase ?_
  · intro j u hu
    rcases j with _ | _ | j
    · simp at hu
      rw [Addr.add_lit, Nat.zero_add, hc0, hu]
    · simp at hu
      rw [Addr.add_lit, Nat.zero_add, hc1, hu]
    · simp at hu
  · intro u hu
    simp at hu
    rcases hu with rfl | rfl <;> rfl
  · intro v' w' h1 h2 _
    exact h v' w' h1 h2
theorem PlO.snoc {w2 w3 : World} {S : Nat} {v v' : Value} {k : Nat} {ps : List Hp} {KK VV : Nat → List (List Int)} {x y : Hd} {o : Obj} (h : PlO w2 S v k ps KK VV) (hx : TbH w2 x (KK k)) (hy : TbH w2 y (VV k))
    (ho : w3.ownsRow S 134 2 v' (k + 1) (flatP ps ++ [hdV x, hdV y])) (hg : (w2.alloc o).grownBy w3 v.ownBlock) : PlO w3 S v' (k + 1) (ps ++ [(x, y)]) KK VV ∧ Kp 134 w2 w3 := by
  have ha : Below w2.heap.size w2 (w2.alloc o) := (Below.refl _ _).alloc (Nat.le_refl _) _
  have h1 := h.below ha
  have hK : Kp 134 w2 w3 := (kp_below ha).trans (grown_kpN h1.own hg)
  have hl := h.len
  refine ⟨⟨by rw [← flatP_app]; exact ho, fun i hi => ?_⟩, hK⟩
  have e : pk (ps ++ [(x, y)]) i = if i < k then pk ps i else (x, y) := at_snoc ps (x, y) _ hl hi
  rw [e]
  by_cases hk : i < k
  · rw [if_pos hk]
    obtain ⟨a1, a2⟩ := h.rows i hk
    exact ⟨a1.keep hK (by decide) (by decide), a2.keep hK (by decide) (by decide)⟩
  · obtain rfl : i = k := by omega
    rw [if_neg hk]
    exact ⟨hx.keep hK (by decide) (by decide), hy.keep hK (by decide) (by decide)⟩
/-- What stands between the rounds of AttnThrough. -/
def ThAt (wS : World) (c : Cf) (L : Nat) (xs : List (List Int)) (k : Nat) (u o : Value) (W : World) : Prop :=
  ∃ (B : Nat) (ps : List Hp), u = .pointer (some ⟨B, 0, none⟩) ∧ MemAt W (some ⟨B, 0, none⟩) (memL c L xs k) ∧ PlO W wS.heap.size o k ps (plK c L xs) (plV c L xs) ∧ Below wS.heap.size wS W
end Go.Proofs.YtjgggialnegddaaGreat
namespace Go.Proofs.YtjgggialnegddaaGreat
open Go.RowKit
set_option linter.unusedVariables false
set_option maxRecDepth 1000000

/-- The variable in block B holds these marks, which lie in block g. -/
structure HpAt (base B g cap : Nat) (ms : List Mk) (W : World) : Prop where
  var : W.heap[B]? = some (.cells #[.slice (some ⟨g, 0, none⟩) ms.length cap] 269 (0, 0))
  own : OwnM base g ms.length cap ms W
  ne : B ≠ g
theorem HpAt.below {base B g cap : Nat} {ms : List Mk} {W W' : World} (h : HpAt base B g cap ms W) (hb : Below W.heap.size W W') : HpAt base B g cap ms W' :=
  ⟨(hb.block _ (lt_of_block h.var)).trans h.var, h.own.stays hb, h.ne⟩
/-- The interface value. -/
abbrev hv (B : Nat) : Value := .iface 271 (.pointer (some ⟨B, 0, none⟩))

theorem Tryz.meth (name : String) (f : Nat) (h : (Tryz.prog.info? 271).map (fun i => (i.methods.find? (·.name == name)).map (fun m => (m.path, m.func))) = some (some (#[], some (f, false)))) :
    ∃ i m, Tryz.prog.info? 271 = some i ∧ i.methods.find? (·.name == name) = some m ∧ m.path = #[] ∧ m.func = some (f, false) := by
  cases hi : Tryz.prog.info? 271 with
  | none => rw [hi] at h; simp at h
  | some i =>
    rw [hi] at h
    simp only [Option.map_some, Option.some.injEq] at h
    cases hm : i.methods.find? (·.name == name) with
    | none => rw [hm] at h; simp at h
    | some m =>
      rw [hm] at h
      simp at h
      exact ⟨i, m, rfl, hm, h.1, h.2⟩
theorem wrapnil (x : TypeId) (a : Addr) (s : String) (w : World) : (Builtin.ssaWrapNilChk_ #[x] x #[.pointer (some a), strVal "", strVal s]).run Tryz.prog w = .ok (.pointer (some a)) w := by kernel_rfl
theorem meth_val (name : String) (f : Nat) (h : (Tryz.prog.info? 271).map (fun i => (i.methods.find? (·.name == name)).map (fun m => (m.path, m.func))) = some (some (#[], some (f, false)))) (B : Nat) (w : World) (v : Value) (hc : w.cell? ⟨B, 0, none⟩ = some v) :
    (method 403 271 (.pointer (some ⟨B, 0, none⟩)) name).run Tryz.prog w = .ok (f, v) w := by
  obtain ⟨i, m, hi, hm, hp, hf⟩ := Tryz.meth name f h
  unfold method
  simp [go_sem, typeInfo, hi, hm, hp, hf, follow, receiverAt, Place.get, wrapnil, loadVar, hc]
theorem meth_less (B : Nat) (w : World) (v : Value) (hc : w.cell? ⟨B, 0, none⟩ = some v) : (method 403 271 (.pointer (some ⟨B, 0, none⟩)) "Less").run Tryz.prog w = .ok (272, v) w := meth_val "Less" 272 (by kernel_rfl) B w v hc
theorem meth_swap (B : Nat) (w : World) (v : Value) (hc : w.cell? ⟨B, 0, none⟩ = some v) : (method 403 271 (.pointer (some ⟨B, 0, none⟩)) "Swap").run Tryz.prog w = .ok (273, v) w := meth_val "Swap" 273 (by kernel_rfl) B w v hc
theorem meth_len (B : Nat) (w : World) (v : Value) (hc : w.cell? ⟨B, 0, none⟩ = some v) : (method 403 271 (.pointer (some ⟨B, 0, none⟩)) "Len").run Tryz.prog w = .ok (271, v) w := meth_val "Len" 271 (by kernel_rfl) B w v hc
theorem meth_push (a : Addr) (w : World) : (method 403 271 (.pointer (some a)) "Push").run Tryz.prog w = .ok (276, .pointer (some a)) w := by kernel_rfl
theorem meth_pop (a : Addr) (w : World) : (method 403 271 (.pointer (some a)) "Pop").run Tryz.prog w = .ok (275, .pointer (some a)) w := by kernel_rfl

theorem HpAt.less {base B g cap : Nat} {ms : List Mk} {W : World} (h : HpAt base B g cap ms W) (i j : Nat) (hi : i < ms.length) (hj : j < ms.length) (hn : ms.length ≤ 1001) :
    Calls Tryz.prog 272 #[.slice (some ⟨g, 0, none⟩) ms.length cap, .int .i64 i, .int .i64 j] W fun e w' => e = .returned (.bool (belowB (gx ms i) (gx ms j))) ∧ HpAt base B g cap ms w' ∧ But [B, g] W w' :=
  (less_any base g ms.length cap i j ms W h.own hi hj hn).mono fun e w' ⟨h1, h2⟩ => ⟨h1, h.below h2, But.of h2⟩
theorem HpAt.swap {base B g cap : Nat} {ms : List Mk} {W : World} (h : HpAt base B g cap ms W) (i j : Nat) (hi : i < ms.length) (hj : j < ms.length) (hn : ms.length ≤ 1001) :
    Calls Tryz.prog 273 #[.slice (some ⟨g, 0, none⟩) ms.length cap, .int .i64 i, .int .i64 j] W fun e w' => e = .returned (.tuple #[]) ∧ HpAt base B g cap (swp ms i j) w' ∧ But [B, g] W w' :=
  (swap_any base g ms.length cap i j ms W h.own hi hj hn).mono fun e w' ⟨h1, h2, h3⟩ => ⟨h1, ⟨by rw [swp_len]; exact h3.one h.var (by simpa using h.ne), by rw [swp_len]; exact h2, h.ne⟩, h3.mono (by simp)⟩

set_option maxHeartbeats 1000000 in
theorem up_any (base B g cap : Nat) (ms : List Mk) (j : Nat) (w : World) (h : HpAt base B g cap ms w) (hj : j < ms.length) (hn : ms.length ≤ 1001) (hU : UpAt ms ms.length j) :
    Calls Tryz.prog 117 #[hv B, .int .i64 j] w fun e w' => e = .returned (.tuple #[]) ∧ (∃ ns, ns.Perm ms ∧ HeapN ns ns.length ∧ HpAt base B g cap ns w') ∧ But [B, g] w w' := by
  have H := hid h
  have HU := hid hU
  clear h hU
  go_enter Tryz.func117, Tryz.ntmps117
  go_wp2_with fail
  go_loopw [1] (fun i W => ∃ (k : Nat) (ns : List Mk), i = .int .i64 k ∧ k < ns.length ∧ Hid (ns.Perm ms) ∧ Hid (UpAt ns ns.length k) ∧ Hid (HpAt base B g cap ns W) ∧ Hid (But [B, g] w W)) (fun i _ => (intOf i).toNat)
  case atStart => exact ⟨j, ms, rfl, hj, List.Perm.refl _, HU, H, But.refl _ _⟩
  case round =>
    obtain ⟨k, ns, rfl, hk, HP, HUk, HH, HB⟩ := hrel
    have hl : ns.length ≤ 1001 := by have := HP.out.length_eq; omega
    by_cases h0 : k = 0
    · subst h0
      have HD : Hid (HeapN ns ns.length) := HUk.out.done (fun h => absurd h (by omega))
      go_wp2
      go_end0
      exact ⟨rfl, ⟨ns, HP.out, HD.out, HH.out⟩, HB.out⟩
    · obtain ⟨p, hp⟩ : ∃ p : Nat, ((k : Int) - 1) / 2 = (p : Int) := ⟨(k - 1) / 2, by omega⟩
      have hp' : (k - 1) / 2 = p := by omega
      have hne : ¬ (p : Int) = (k : Int) := by omega
      have hne' : ((p : Int) == (k : Int)) = false := by simpa using hne
      have hml := meth_less B wr _ (cell_of_one HH.out.var)
      have hL := HH.out.less k p hk (by omega) hl
      by_cases hb : ltM (gx ns k) (gx ns p)
      · have hbb : belowB (gx ns k) (gx ns p) = true := belowB_yes hb
        have HS : Hid (UpAt (swp ns p k) (swp ns p k).length p) := by
          have := HUk.out.step (by omega) hk (Nat.le_refl _) (by rw [hp']; exact hb)
          rw [hp'] at this
          rw [swp_len]
          exact this
        have HPS : Hid ((swp ns p k).Perm ms) := (swp_perm (by omega) hk).trans HP.out
        rw [hbb] at hL
        clear hb hbb HH
        go_wp2_with fail
        refine hL.mono ?_
        rintro e w2 ⟨rfl, hH2, hB2⟩
        have hms := meth_swap B w2 _ (cell_of_one hH2.var)
        have hS := hH2.swap p k (by omega) hk hl
        have HB2 := hid (HB.out.trans hB2)
        clear hH2 hB2 hL hml
        go_wp2_with fail
        refine hS.mono ?_
        rintro e w3 ⟨rfl, hH3, hB3⟩
        have HH3 := hid hH3
        have HB3 := hid (HB2.out.trans hB3)
        clear hH3 hB3 hS hms
        go_wp2_with fail
        go_round
        case rel => exact ⟨p, swp ns p k, rfl, by rw [swp_len]; omega, HPS, HS, HH3, HB3⟩
        case measure => simp [intOf]; omega
      · have hbb : belowB (gx ns k) (gx ns p) = false := belowB_no hb
        have HD : Hid (HeapN ns ns.length) := HUk.out.done (fun _ => by rw [hp']; exact hb)
        rw [hbb] at hL
        clear hb hbb HH
        go_wp2_with fail
        refine hL.mono ?_
        rintro e w2 ⟨rfl, hH2, hB2⟩
        have HH2 := hid hH2
        have HB2 := hid (HB.out.trans hB2)
        clear hH2 hB2 hL hml
        go_wp2
        go_end0
        exact ⟨rfl, ⟨ns, HP.out, HD.out, HH2.out⟩, HB2.out⟩
end Go.Proofs.YtjgggialnegddaaGreat
