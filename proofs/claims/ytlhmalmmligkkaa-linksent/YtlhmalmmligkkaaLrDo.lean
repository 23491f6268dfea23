/-
  The document's link: Send, Deliver, Drop, Later.
-/
import Derived.Test.YtlhmalmmligkkaaLrOp
namespace Go.Proofs.Ytlhmalmmligkkaa
open Go.RowKit
set_option linter.unusedVariables false
set_option maxRecDepth 1000000
variable {B b : Nat} {w w' : World} {v : Value} {us : List Value} {S : Lm}

/-- An append whose run is known, at the list of a plain region. -/
theorem wpList_app_eq {P : Program} {w : World} {ops : Array Oper} {rest : List Oper} {o : Oper} {a : Act} {Q : Exit → Act → World → Prop} (hgd : o.guard = none) (s x : Operand) (t : TypeId)
    (ho : o.op = .call { callee := .builtin .append, args := #[s, x], argTypes := #[t, t] }) (v1 v2 v' : Value) (w' : World) (hs : a.eval s = v1) (hx : a.eval x = v2) (hr : (Builtin.append_ #[t, t] o.type #[v1, v2]).run P w = .ok v' w') (h : wpList P ops Q rest (a.put o.dst v') w') : wpList P ops Q (o :: rest) a w := by
  refine wpList_plain hgd fun K hK => ?_
  unfold Oper.wp execOp
  simp only [ho, resolve, invoke, builtin, Sem.run_bind, Sem.run_pure, Result.andThen_ok, List.map_toArray, List.map_cons, List.map_nil, hs, hx, hr]
  exact hK _ _ h
theorem own_base {base base' e size n : Nat} {v : Value} {xs : List Value} {w : World} (h : w.ownsRow base e size v n xs) (hb : base' ≤ base) : w.ownsRow base' e size v n xs := by
  refine ⟨h.1, ?_⟩
  rcases h.2 with e | ⟨g, c, cur, e, h4, rest⟩
  · exact .inl e
  · exact .inr ⟨g, c, cur, e, Nat.le_trans hb h4, rest⟩
/-- A row in new memory, set into the link. -/
theorem rrow_end (h : LrAt B w b v us S) {W : World} (hb : Below w.heap.size w W) {v' : Value} {us' : List Value} {ms' : List (List Int)} (hr : W.ownsRow w.heap.size 36 1 v' us'.length us') (hl : us'.length = ms'.length)
    (hm : ∀ (i : Nat) (u : Value) (zs : List Int), us'[i]? = some u → ms'[i]? = some zs → MsgAt B W u zs) (hk : ms'.length ≤ S.room) (hF : ∀ k, msF us' k → lkF b v us k ∨ w.heap.size ≤ k) :
    LrAt B (W.setCell ⟨b, 1, none⟩ v') b v' us' (S.put ms') ∧ Fb (at1 b) w (W.setCell ⟨b, 1, none⟩ v') ∧ ∀ k, lkF b v' us' k → lkF b v us k ∨ w.heap.size ≤ k := by
  have hB : B ≤ w.heap.size := by have := h.hb; have := h.blt; omega
  refine ⟨(h.below hb).rowed (own_base hr hB) hl hm hk, (Fb.of hb : Fb (at1 b) w W).trans (fb_one ..) fun k hk => .inl hk, fun k hk => ?_⟩
  rcases hk with (rfl | e) | e
  · exact .inl (.inl (.inl rfl))
  · exact .inr (hr.lt k e).1
  · exact hF k e
/-- The row's copy. -/
theorem rcopy (h : LrAt B w b v us S) {ao : Option Addr} {n c : Nat} (hv : v = .slice ao n c) (W : World) (hb : Below w.heap.size w W) : ∃ v1 W1, (Builtin.append_ #[27, 27] 27 #[.slice none 0 0, .slice ao n c]).run Try.prog W = .ok v1 W1 ∧ W1.ownsRow w.heap.size 36 1 v1 us.length us ∧ Below w.heap.size w W1 ∧ Below W.heap.size W W1 := by
  have hrw := (h.below hb).row
  have hn : us.length ≤ 256 := by rw [h.len]; exact Nat.le_trans h.ok.ms h.ok.r1
  have hun : us.length = n := by
    rcases id h.row.2 with ⟨e, e0⟩ | ⟨g, cap, cur, e, _⟩
    · rw [hv] at e; cases e; exact e0
    · rw [hv] at e; cases e; rfl
  obtain ⟨v1, W1, e1, o1, g1, _⟩ := run_rapp W (B := w.heap.size) hb.size (.slice none 0 0) [] (World.ownsRow_nil _ _ _ _) ao n c us hun
    (fun e => by
      subst e
      rcases id h.row.2 with ⟨e, e0⟩ | ⟨g, cap, cur, e, _⟩
      · rw [hv] at e; cases e; exact ⟨rfl, rfl⟩
      · rw [hv] at e; cases e)
    (fun ad ha j u hu => by
      subst ha
      rcases id h.row.2 with ⟨e, e0⟩ | ⟨g, cap, cur, e, _⟩
      · rw [hv] at e; cases e
      · rw [hv] at e
        cases e
        rw [Addr.add_lit, Nat.zero_add]
        rw [hv] at hrw
        have := hrw.cellAt j (by rw [Nat.mul_one]; exact (List.getElem?_eq_some_iff.1 hu).1)
        rw [this, hu]) (fun u hu => h.ones u hu) (by simp; omega) 27
  rw [List.nil_append] at o1
  exact ⟨v1, W1, e1, o1, hb.trans (grown_below hb.size (World.ownsRow_nil W w.heap.size _ 1) g1), grown_below (Nat.le_refl _) (World.ownsRow_nil W W.heap.size _ 1) g1⟩
/-- Bytes, copied. -/
theorem run_bapp (w : World) (a : Option Addr) (len cap : Nat) (zs : List Int) (hr : Reads .u8 w a len cap zs) (hz : IsBytes zs) (hlen : len ≤ 140737488351232) (ty : TypeId) : ∃ ua uc w', (Builtin.append_ #[36, 36] ty #[.slice none 0 0, .slice a len cap]).run Try.prog w = .ok (.slice ua zs.length uc) w' ∧ MsgAt w.heap.size w' (.slice ua zs.length uc) zs ∧ Below w.heap.size w w' := by
  obtain ⟨i0, hi, hz0, hz1, hz2⟩ := info_parts Try.info5
  cases a with
  | none =>
    obtain ⟨rfl, rfl⟩ := hr.bare rfl
    obtain rfl : zs = [] := List.eq_nil_of_length_eq_zero hr.size
    exact ⟨none, 0, w, run_append_owned_none (P := Try.prog) w w.heap.size 36 ty 5 i0 1 Try.underlying36 hi (.slice none 0 0) 0 [] (World.ownsRow_nil _ _ _ _), ⟨World.ownsRow_nil _ _ _ _, hz, by simp⟩, Below.refl _ _⟩
  | some ad =>
    have hs := hr.size
    obtain ⟨v', w', h2, h3, h4, _, h5⟩ := run_append_own_at (P := Try.prog) w w.heap.size 36 ty 5 i0 (.int .u8 0) 1 1 Try.underlying36 hi hz0 hz1 hz2 rfl (by decide) (.slice none 0 0) 0 [] (World.ownsRow_nil _ _ _ _) ad len cap (zs.map (Value.int .u8)) (by simpa using hs) hr.news (ints_oneCell .u8 zs) (by unfold maxLen; omega) (by omega) (Nat.le_refl _)
    rw [List.nil_append, Nat.zero_add, ← hs] at h3
    obtain ⟨ua, uc, rfl, _⟩ := Reads.own (k := .u8) h3
    exact ⟨ua, uc, w', h2, ⟨h3, hz, by rw [hs]; exact hlen⟩, (Below.refl _ w).grown h4 (Nat.le_refl _) fun k hk => by cases hk⟩
/-- One more to a row in new memory. -/
theorem rmore {w W : World} (hb : Below w.heap.size w W) {v1 : Value} {xs : List Value} (o1 : W.ownsRow w.heap.size 36 1 v1 xs.length xs) (hn : xs.length ≤ 256) {ua : Option Addr} {un uc : Nat} {zs : List Int} (hm : MsgAt B W (.slice ua un uc) zs) :
    ∃ g3 c3 W3, (Builtin.append_ #[27, 27] 27 #[v1, .slice (some ⟨W.heap.size, 0, none⟩) 1 1]).run Try.prog (W.alloc (.cells #[.slice ua un uc] 36)) = .ok (.slice (some ⟨g3, 0, none⟩) (xs.length + 1) c3) W3 ∧
      W3.ownsRow w.heap.size 36 1 (.slice (some ⟨g3, 0, none⟩) (xs.length + 1) c3) (xs ++ [Value.slice ua un uc]).length (xs ++ [Value.slice ua un uc]) ∧ Below w.heap.size w W3 ∧ (∀ (u : Value) (ys : List Int) (B' : Nat), MsgAt B' W u ys → MsgAt B' W3 u ys) := by
  have ha : Below W.heap.size W (W.alloc (.cells #[.slice ua un uc] 36)) := (Below.refl _ _).alloc (Nat.le_refl _) _
  have hba : Below w.heap.size w (W.alloc (.cells #[.slice ua un uc] 36)) := hb.trans (ha.mono hb.size)
  have o2 := own_below o1 ha
  obtain ⟨v3, W3, e3, o3, g3, _⟩ := run_rapp (W.alloc (.cells #[.slice ua un uc] 36)) (B := w.heap.size) hba.size v1 xs o2 (some ⟨W.heap.size, 0, none⟩) 1 1 [.slice ua un uc] rfl (fun e => by cases e)
    (fun ad hd j u hu => by
      cases hd
      exact World.news_of_block (heap_alloc_new W _) j u hu) (fun u hu => by rw [List.mem_singleton.1 hu]; rfl) (by omega) 27
  have hl : (xs ++ [Value.slice ua un uc]).length = xs.length + 1 := by simp
  rw [hl] at o3
  obtain ⟨g, c, hv3, _⟩ := o3.form (by omega)
  subst hv3
  refine ⟨g, c, W3, e3, by rw [hl]; exact o3, hba.trans (grown_below hba.size o2 g3), fun u ys B' hu => ?_⟩
  have hu2 := hu.below ha
  exact hu2.same fun k hk => (fb_grown g3).block k (hu2.lt hk).2 fun e => row_msg o2 hu2 e hk
theorem msgs_app {W : World} {us : List Value} {ms : List (List Int)} {u : Value} {zs : List Int} (hl : us.length = ms.length) (h : ∀ (i : Nat) (u : Value) (zs : List Int), us[i]? = some u → ms[i]? = some zs → MsgAt B W u zs) (hm : MsgAt B W u zs) :
    ∀ (i : Nat) (x : Value) (ys : List Int), (us ++ [u])[i]? = some x → (ms ++ [zs])[i]? = some ys → MsgAt B W x ys := fun i x ys hx hy => by
  by_cases hi : i < us.length
  · rw [List.getElem?_append_left hi] at hx
    rw [List.getElem?_append_left (by omega)] at hy
    exact h i x ys hx hy
  · have hi' : i < (us ++ [u]).length := (List.getElem?_eq_some_iff.1 hx).1
    rw [List.length_append, List.length_singleton] at hi'
    obtain rfl : i = us.length := by omega
    rw [List.getElem?_append_right (by omega)] at hx
    rw [hl, List.getElem?_append_right (by omega)] at hy
    simp at hx hy
    subst hx hy
    exact hm
theorem msgs_erase {W : World} {us : List Value} {ms : List (List Int)} (h : ∀ (i : Nat) (u : Value) (zs : List Int), us[i]? = some u → ms[i]? = some zs → MsgAt B W u zs) (n : Nat) :
    ∀ (i : Nat) (x : Value) (ys : List Int), (us.eraseIdx n)[i]? = some x → (ms.eraseIdx n)[i]? = some ys → MsgAt B W x ys := fun i x ys hx hy => h _ x ys (erase_at hx) (erase_at hy)
theorem LrAt.erase (h : LrAt B w b v us S) {i : Nat} (hi : i < S.ms.length) : (us.eraseIdx i).length = (S.ms.eraseIdx i).length ∧ (S.ms.eraseIdx i).length < S.room := by
  have := h.ok.ms
  have := h.len
  rw [List.length_eraseIdx, List.length_eraseIdx, if_pos hi, if_pos (by omega)]
  omega
theorem msF_erase {us : List Value} {i k : Nat} (h : msF (us.eraseIdx i) k) : msF us k := by
  obtain ⟨u, hu, e⟩ := h
  exact ⟨u, List.mem_of_mem_eraseIdx hu, e⟩
theorem rdrop_yes (h : LrAt B w b v us S) {i : Nat} (hi : i < S.ms.length) :
    Calls Try.prog 15 #[.pointer (some ⟨b, 0, none⟩), .int .i64 i] w fun e w' => e = .returned (.int .i64 0) ∧ Hid (GoesR B w b v us ((S.less i).lost 1) w') := by
  have hH := rhas_any h i
  rw [decide_eq_true (show (0 : Int) ≤ i ∧ (i : Int) < S.ms.length by omega)] at hH
  have hW := rwithout_any h hi
  have HE : Hid (∀ (W : World) (v' : Value), Below w.heap.size w W → W.ownsRow w.heap.size 36 1 v' (us.eraseIdx i).length (us.eraseIdx i) → LrAt B (W.setCell ⟨b, 1, none⟩ v') b v' (us.eraseIdx i) (S.less i) ∧ Fb (at1 b) w (W.setCell ⟨b, 1, none⟩ v') ∧ ∀ k, lkF b v' (us.eraseIdx i) k → lkF b v us k ∨ w.heap.size ≤ k) := fun W v' hb hr =>
    rrow_end h hb hr (h.erase hi).1 (msgs_erase (fun j u zs hu hz => (h.msg j u zs hu hz).below hb) i) (Nat.le_of_lt (h.erase hi).2) fun k hk => .inl (.inr (msF_erase hk))
  have HK : Hid (∀ W, Below w.heap.size w W → W.cell? ⟨b, 1, none⟩ = some v ∧ W.frozen? ⟨b, 1, none⟩ = false ∧ W.cell? ⟨b, 4, none⟩ = some (.int .u32 S.dr)) := fun W hb => ⟨(h.below hb).cells.2.1, (h.below hb).frozen 1, (h.below hb).cells.2.2.2.2.1⟩
  have hc := h.ok.dr
  clear h hi
  go_enter Try.func15, Try.ntmps15
  go_wp2_with fail
  with_reducible refine hH.mono ?_
  rintro e w1 ⟨rfl, rfl⟩
  go_wp2_with fail
  with_reducible refine hW.mono ?_
  rintro e w2 ⟨v2, rfl, H⟩
  obtain ⟨d1, f1, d4⟩ := HK.out _ H.out.2
  have HX := hid (HE.out _ _ H.out.2 H.out.1)
  have hsl : ∃ a n c, v2 = .slice a n c := by
    rcases H.out.1.2 with ⟨e, _⟩ | ⟨g, cap, cur, e, _⟩
    · exact ⟨_, _, _, e⟩
    · exact ⟨_, _, _, e⟩
  obtain ⟨va, vn, vc, rfl⟩ := hsl
  clear hH hW HE HK H
  go_wp2_with fail
  generalize w2.setCell ⟨b, 1, none⟩ (.slice va vn vc) = w3 at *
  have hU := rup_any S.dr w3 hc
  with_reducible refine hU.mono ?_
  rintro e w4 ⟨rfl, rfl⟩
  have c4 := HX.out.1.cells.2.2.2.2.1
  change w4.cell? _ = some (.int .u32 S.dr) at c4
  have f4 := HX.out.1.frozen 4
  clear hU d4 d1 f1
  go_wp2_with fail
  go_ret
  exact ⟨rfl, _, _, HX.out.1.lost, HX.out.2.1.trans (fb_one ..) fun k hk => .inl hk, HX.out.2.2⟩
theorem rdeliver_yes (h : LrAt B w b v us S) {i : Nat} {u : Value} (hu : us[i]? = some u) :
    Calls Try.prog 13 #[.pointer (some ⟨b, 0, none⟩), .int .i64 i] w fun e w' => e = .returned (.tuple #[u, .int .i64 0]) ∧ Hid (GoesR B w b v us (S.less i).came w') := by
  have hi : i < S.ms.length := by rw [← h.len]; exact (List.getElem?_eq_some_iff.1 hu).1
  have hH := rhas_any h i
  rw [decide_eq_true (show (0 : Int) ≤ i ∧ (i : Int) < S.ms.length by omega)] at hH
  have hW := rwithout_any h hi
  have HE : Hid (∀ (W : World) (v' : Value), Below w.heap.size w W → W.ownsRow w.heap.size 36 1 v' (us.eraseIdx i).length (us.eraseIdx i) → LrAt B (W.setCell ⟨b, 1, none⟩ v') b v' (us.eraseIdx i) (S.less i) ∧ Fb (at1 b) w (W.setCell ⟨b, 1, none⟩ v') ∧ ∀ k, lkF b v' (us.eraseIdx i) k → lkF b v us k ∨ w.heap.size ≤ k) := fun W v' hb hr =>
    rrow_end h hb hr (h.erase hi).1 (msgs_erase (fun j u zs hu hz => (h.msg j u zs hu hz).below hb) i) (Nat.le_of_lt (h.erase hi).2) fun k hk => .inl (.inr (msF_erase hk))
  have HK : Hid (∀ W, Below w.heap.size w W → W.cell? ⟨b, 1, none⟩ = some v ∧ W.frozen? ⟨b, 1, none⟩ = false ∧ W.cell? ⟨b, 3, none⟩ = some (.int .u32 S.ca)) := fun W hb => ⟨(h.below hb).cells.2.1, (h.below hb).frozen 1, (h.below hb).cells.2.2.2.1⟩
  have hc := h.ok.ca
  have c1 := h.cells.2.1
  obtain ⟨g, cap, hv, v1, v2⟩ := h.form (by omega)
  have c2 := h.at hv hu
  have r1 := h.ok.r1
  have r2 := h.ok.ms
  subst hv
  clear h hu
  generalize S.ms.length = n at *
  go_enter Try.func13, Try.ntmps13
  go_wp2_with fail
  with_reducible refine hH.mono ?_
  rintro e w1 ⟨rfl, rfl⟩
  go_wp2_with fail
  with_reducible refine hW.mono ?_
  rintro e w2 ⟨v2, rfl, H⟩
  obtain ⟨d1, f1, d4⟩ := HK.out _ H.out.2
  have HX := hid (HE.out _ _ H.out.2 H.out.1)
  have hsl : ∃ a n c, v2 = .slice a n c := by
    rcases H.out.1.2 with ⟨e, _⟩ | ⟨g, cap, cur, e, _⟩
    · exact ⟨_, _, _, e⟩
    · exact ⟨_, _, _, e⟩
  obtain ⟨va, vn, vc, rfl⟩ := hsl
  clear hH hW HE HK H c1 c2
  go_wp2_with fail
  generalize w2.setCell ⟨b, 1, none⟩ (.slice va vn vc) = w3 at *
  have hU := rup_any S.ca w3 hc
  with_reducible refine hU.mono ?_
  rintro e w4 ⟨rfl, rfl⟩
  have c4 := HX.out.1.cells.2.2.2.1
  change w4.cell? _ = some (.int .u32 S.ca) at c4
  have f4 := HX.out.1.frozen 3
  clear hU d4 d1 f1
  go_wp2_with fail
  go_ret2
  exact ⟨rfl, _, _, HX.out.1.came, HX.out.2.1.trans (fb_one ..) fun k hk => .inl hk, HX.out.2.2⟩
theorem rlater_yes (h : LrAt B w b v us S) {i : Nat} {u : Value} {zs : List Int} (hu : us[i]? = some u) (hz : S.ms[i]? = some zs) :
    Calls Try.prog 19 #[.pointer (some ⟨b, 0, none⟩), .int .i64 i] w fun e w' => e = .returned (.int .i64 0) ∧ Hid (GoesR B w b v us (S.put (S.ms.eraseIdx i ++ [zs])) w') := by
  have hi : i < S.ms.length := (List.getElem?_eq_some_iff.1 hz).1
  have hH := rhas_any h i
  rw [decide_eq_true (show (0 : Int) ≤ i ∧ (i : Int) < S.ms.length by omega)] at hH
  have hW := rwithout_any h hi
  have hm := h.msg i u zs hu hz
  obtain ⟨ua, uc, rfl, _⟩ := hm.reads
  generalize zs.length = un at *
  have hln : (us.eraseIdx i).length ≤ 256 := by have := (h.erase hi).2; have := (h.erase hi).1; have := h.ok.r1; omega
  have HK : Hid (∀ W, Below w.heap.size w W → W.cell? ⟨b, 1, none⟩ = some v ∧ W.frozen? ⟨b, 1, none⟩ = false) := fun W hb => ⟨(h.below hb).cells.2.1, (h.below hb).frozen 1⟩
  have HM : Hid (∀ (W : World) (v' : Value), Below w.heap.size w W → W.ownsRow w.heap.size 36 1 v' (us.eraseIdx i).length (us.eraseIdx i) → _) := fun W v' hb o => rmore (B := B) hb o hln (hm.below hb)
  have HE : Hid (∀ (W W3 : World) (v' : Value), Below w.heap.size w W → Below w.heap.size w W3 → (∀ (u : Value) (ys : List Int) (B' : Nat), MsgAt B' W u ys → MsgAt B' W3 u ys) → W3.ownsRow w.heap.size 36 1 v' (us.eraseIdx i ++ [Value.slice ua un uc]).length (us.eraseIdx i ++ [Value.slice ua un uc]) → GoesR B w b v us (S.put (S.ms.eraseIdx i ++ [zs])) (W3.setCell ⟨b, 1, none⟩ v')) := fun W W3 v' hb hb3 hk o => by
    refine ⟨v', _, rrow_end h hb3 o (by simp [(h.erase hi).1]) (msgs_app (h.erase hi).1 (msgs_erase (fun j u zs hu hz => hk _ _ _ ((h.msg j u zs hu hz).below hb)) i) (hk _ _ _ (hm.below hb))) (by have := (h.erase hi).2; simp; omega) fun k hk => ?_⟩
    obtain ⟨x, hx, e⟩ := hk
    rcases List.mem_append.1 hx with hx | hx
    · exact .inl (.inr (msF_erase ⟨x, hx, e⟩))
    · rw [List.mem_singleton.1 hx] at e
      exact .inl (.inr ⟨_, List.mem_of_getElem? hu, e⟩)
  have c1 := h.cells.2.1
  obtain ⟨g, cap, hv, v1, v2⟩ := h.form (by omega)
  have c2 := h.at hv hu
  have r1 := h.ok.r1
  have r2 := h.ok.ms
  subst hv
  clear h hu hz hm
  generalize S.ms.length = n at *
  generalize (us.eraseIdx i).length = q at *
  go_enter Try.func19, Try.ntmps19
  go_wp2_with fail
  with_reducible refine hH.mono ?_
  rintro e w1 ⟨rfl, rfl⟩
  go_wp2_with fail
  with_reducible refine hW.mono ?_
  rintro e w2 ⟨v2, rfl, H⟩
  obtain ⟨g3, c3, W3, e3, o3, hb3, hk3⟩ := HM.out _ _ H.out.2 H.out.1
  have HX := hid (HE.out w2 W3 _ H.out.2 hb3 hk3 o3)
  obtain ⟨d1, f1⟩ := HK.out _ hb3
  have HE3 := hid e3
  clear hH hW HE HK H c1 c2 HM hb3 hk3 o3 e3
  go_wp2_with (at_builtin; refine wpList_app_eq rfl (.tmp 20) (.tmp 22) 27 rfl _ _ _ _ rfl rfl HE3.out ?_)
  go_ret
  exact ⟨rfl, HX.out⟩
end Go.Proofs.Ytlhmalmmligkkaa
