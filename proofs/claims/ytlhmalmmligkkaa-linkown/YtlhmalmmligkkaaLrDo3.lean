/-
  The document's link: Twice, Turn.
-/
import Derived.Test.YtlhmalmmligkkaaLrDo2
namespace Go.Proofs.Ytlhmalmmligkkaa
open Go.RowKit
set_option linter.unusedVariables false
set_option maxRecDepth 1000000
variable {B b : Nat} {w w' : World} {v : Value} {us : List Value} {S : Lm}

/-- An append of which it is known that it runs, at a step of a region that draws its order. -/
theorem step_app_ex {P : Program} {w : World} {ops : Array Oper} {o : Oper} {a : Act} {K : Act → World → Prop} {Q : Exit → Act → World → Prop} {E : Prop} {R : Value → World → Prop} (hgd : o.guard = none) (d : Tmp) (hd : o.dst = some d) (s x : Operand) (t : TypeId)
    (ho : o.op = .call { callee := .builtin .append, args := #[s, x], argTypes := #[t, t] }) (v1 v2 : Value) (hs : a.eval s = v1) (hx : a.eval x = v2) (hr : ∃ v' w', (Builtin.append_ #[t, t] o.type #[v1, v2]).run P w = .ok v' w' ∧ R v' w') (h : ∀ v' w', R v' w' → K (a.put (some d) v') w') :
    if Region.wanted o (yielded ops a.tmps) = true then Oper.wp P o a w K Q else E := by
  obtain ⟨v', w', h1, h2⟩ := hr
  exact step_app_eq hgd d hd s x t ho v1 v2 v' w' hs hx h1 (h v' w' h2)
/-- One more to a row in new memory, out of a block that is known. -/
theorem rmore2 {w W : World} (hb : Below w.heap.size w W) {v1 : Value} {xs : List Value} (o1 : W.ownsRow w.heap.size 36 1 v1 xs.length xs) (hn : xs.length ≤ 256) {ua : Option Addr} {un uc q : Nat} (hq : W.heap[q]? = some (.cells #[.slice ua un uc] 36 (0, 0))) :
    ∃ g3 c3 W3, (Builtin.append_ #[27, 27] 27 #[v1, .slice (some ⟨q, 0, none⟩) 1 1]).run Try.prog W = .ok (.slice (some ⟨g3, 0, none⟩) (xs.length + 1) c3) W3 ∧
      W3.ownsRow w.heap.size 36 1 (.slice (some ⟨g3, 0, none⟩) (xs.length + 1) c3) (xs ++ [Value.slice ua un uc]).length (xs ++ [Value.slice ua un uc]) ∧ Below w.heap.size w W3 ∧ (∀ (u : Value) (ys : List Int) (B' : Nat), MsgAt B' W u ys → MsgAt B' W3 u ys) := by
  obtain ⟨v3, W3, e3, o3, g3, _⟩ := run_rapp W (B := w.heap.size) hb.size v1 xs o1 (some ⟨q, 0, none⟩) 1 1 [.slice ua un uc] rfl (fun e => by cases e)
    (fun ad hd j u hu => by
      cases hd
      exact World.news_of_block hq j u hu) (fun u hu => by rw [List.mem_singleton.1 hu]; rfl) (by omega) 27
  have hl : (xs ++ [Value.slice ua un uc]).length = xs.length + 1 := by simp
  rw [hl] at o3
  obtain ⟨g, c, hv3, _⟩ := o3.form (by omega)
  subst hv3
  exact ⟨g, c, W3, e3, by rw [hl]; exact o3, hb.trans (grown_below hb.size o1 g3), fun u ys B' hu => hu.same fun k hk => (fb_grown g3).block k (hu.lt hk).2 fun e => row_msg o1 hu e hk⟩
theorem rtwice_full (h : LrAt B w b v us S) {i : Nat} (hi : i < S.ms.length) (hf : S.room ≤ S.ms.length) :
    Calls Try.prog 17 #[.pointer (some ⟨b, 0, none⟩), .int .i64 i] w fun e w' => e = .returned (.int .i64 9) ∧ Hid (Below w.heap.size w w') := by
  have hH := rhas_any h i
  rw [decide_eq_true (show (0 : Int) ≤ i ∧ (i : Int) < S.ms.length by omega)] at hH
  have c0 := h.cells.1
  have c1 := h.cells.2.1
  have hlen := h.vlen
  have HD : Hid (∀ k : Nat, Below w.heap.size w (w.drewN k)) := fun k => ⟨rfl, rfl, rfl, Nat.le_refl _, fun _ _ => rfl⟩
  clear h hi
  go_enter Try.func17, Try.ntmps17
  go_wp2_with fail
  with_reducible refine hH.mono ?_
  rintro e w1 ⟨rfl, rfl⟩
  go_wp2_with fail
  go_quiet (fail)
  go_wp2_with fail
  go_ret
  exact ⟨rfl, HD.out _⟩
set_option maxHeartbeats 4000000 in
theorem rtwice_room (h : LrAt B w b v us S) {i : Nat} {u : Value} {zs : List Int} (hu : us[i]? = some u) (hz : S.ms[i]? = some zs) (hf : ¬ S.room ≤ S.ms.length) :
    Calls Try.prog 17 #[.pointer (some ⟨b, 0, none⟩), .int .i64 i] w fun e w' => e = .returned (.int .i64 0) ∧ Hid (GoesR B w b v us (S.put (S.ms ++ [zs])) w') := by
  have hi : i < S.ms.length := (List.getElem?_eq_some_iff.1 hz).1
  have hH := rhas_any h i
  rw [decide_eq_true (show (0 : Int) ≤ i ∧ (i : Int) < S.ms.length by omega)] at hH
  have c0 := h.cells.1
  have c1 := h.cells.2.1
  obtain ⟨g, cap, hv, v1, v2⟩ := h.form (by omega)
  have hun : us.length = S.ms.length := h.len
  have hn256 : us.length ≤ 256 := by rw [h.len]; exact Nat.le_trans h.ok.ms h.ok.r1
  have hm := h.msg i u zs hu hz
  obtain ⟨ua, uc, rfl, hr⟩ := hm.reads
  have HK : Hid (∀ W, Below w.heap.size w W → W.cell? ⟨b, 1, none⟩ = some v ∧ W.cell? ⟨g, i, none⟩ = some (.slice ua zs.length uc)) := fun W hb => ⟨(h.below hb).cells.2.1, (h.below hb).at hv hu⟩
  have HF : Hid (∀ W, Below w.heap.size w W → W.frozen? ⟨b, 1, none⟩ = false) := fun W hb => (h.below hb).frozen 1
  have HA1 : Hid (∀ W, Below w.heap.size w W → _) := fun W hb => rcopy h hv W hb
  have HA2 : Hid (∀ W, Below w.heap.size w W → ∃ x W2, (Builtin.append_ #[36, 36] 36 #[.slice none 0 0, .slice ua zs.length uc]).run Try.prog W = .ok x W2 ∧ ∃ xa xc, x = .slice xa zs.length xc ∧ MsgAt W.heap.size W2 (.slice xa zs.length xc) zs ∧ Below W.heap.size W W2) := fun W hb => by
    obtain ⟨xa, xc, W2, e, m, b2⟩ := run_bapp W ua zs.length uc zs (hr.below hb) hm.bs hm.len 36
    exact ⟨_, W2, e, xa, xc, rfl, m, b2⟩
  have HA3 : Hid (∀ (W : World) (x : Value) (xa : Option Addr) (xc : Nat), Below w.heap.size w W → W.ownsRow w.heap.size 36 1 x us.length us → MsgAt w.heap.size W (.slice xa zs.length xc) zs → ∃ y W3, (Builtin.append_ #[27, 27] 27 #[x, .slice (some ⟨W.heap.size, 0, none⟩) 1 1]).run Try.prog (W.alloc (.cells #[.slice xa zs.length xc] 36)) = .ok y W3 ∧ ∃ g3 c3, y = .slice (some ⟨g3, 0, none⟩) (us.length + 1) c3 ∧
      W3.ownsRow w.heap.size 36 1 (.slice (some ⟨g3, 0, none⟩) (us.length + 1) c3) (us ++ [Value.slice xa zs.length xc]).length (us ++ [Value.slice xa zs.length xc]) ∧ Below w.heap.size w W3 ∧ (∀ (u : Value) (ys : List Int) (B' : Nat), MsgAt B' W u ys → MsgAt B' W3 u ys)) := fun W x xa xc hb o hm => by
    obtain ⟨g3, c3, W3, e, q⟩ := rmore (B := w.heap.size) hb o hn256 hm
    exact ⟨_, W3, e, g3, c3, rfl, q⟩
  have HA4 : Hid (∀ (W : World) (x : Value) (xa : Option Addr) (xc q : Nat), Below w.heap.size w W → W.ownsRow w.heap.size 36 1 x us.length us → MsgAt w.heap.size W (.slice xa zs.length xc) zs → W.heap[q]? = some (.cells #[.slice xa zs.length xc] 36 (0, 0)) → ∃ y W3, (Builtin.append_ #[27, 27] 27 #[x, .slice (some ⟨q, 0, none⟩) 1 1]).run Try.prog W = .ok y W3 ∧ ∃ g3 c3, y = .slice (some ⟨g3, 0, none⟩) (us.length + 1) c3 ∧
      W3.ownsRow w.heap.size 36 1 (.slice (some ⟨g3, 0, none⟩) (us.length + 1) c3) (us ++ [Value.slice xa zs.length xc]).length (us ++ [Value.slice xa zs.length xc]) ∧ Below w.heap.size w W3 ∧ (∀ (u : Value) (ys : List Int) (B' : Nat), MsgAt B' W u ys → MsgAt B' W3 u ys)) := fun W x xa xc q hb o hm hq => by
    obtain ⟨g3, c3, W3, e, q⟩ := rmore2 hb o hn256 hq
    exact ⟨_, W3, e, g3, c3, rfl, q⟩
  have HE : Hid (∀ (W W3 : World) (v' : Value) (xa : Option Addr) (xc : Nat), Below w.heap.size w W → MsgAt w.heap.size W (.slice xa zs.length xc) zs → Below w.heap.size w W3 → (∀ (u : Value) (ys : List Int) (B' : Nat), MsgAt B' W u ys → MsgAt B' W3 u ys) → W3.ownsRow w.heap.size 36 1 v' (us ++ [Value.slice xa zs.length xc]).length (us ++ [Value.slice xa zs.length xc]) → GoesR B w b v us (S.put (S.ms ++ [zs])) (W3.setCell ⟨b, 1, none⟩ v')) := fun W W3 v' xa xc hb hm hb3 hk o => radd_end h (by omega) hb hm hb3 hk o
  have HX : Hid (∀ (W3 : World) (x : Value), Below w.heap.size w W3 → (W3.setCell ⟨b, 1, none⟩ x).cell? ⟨g, i, none⟩ = some (.slice ua zs.length uc)) := fun W3 x hb => by
    have h1 := (h.below hb).at hv hu
    have hbg : g ≠ b := fun e => h.vb h.row (by rw [hv, ← e]; rfl)
    rw [World.cell?_of_block (w := W3) (Below.heap_setCell _ _ _ _ (show g ≠ b from hbg))]
    exact h1
  have hlen := h.vlen
  have HD : Hid (∀ k : Nat, Below w.heap.size w (w.drewN k)) := fun k => ⟨rfl, rfl, rfl, Nat.le_refl _, fun _ _ => rfl⟩
  have HAl := hid fun (W : World) (hb : Below w.heap.size w W) (o : Obj) => hb.alloc hb.size o
  have hi0 : (0 : Int) ≤ (i : Int) := by omega
  have hi1 : (i : Int) < (S.ms.length : Int) := by omega
  have r1 := h.ok.r1
  have r2 := h.ok.ms
  clear h hu hz hm hr
  subst hv
  rw [hun] at hn256
  generalize hzn : zs.length = zn at *
  generalize hnn : S.ms.length = n at *
  clear hzn hnn hun
  go_enter Try.func17, Try.ntmps17
  go_wp2_with fail
  with_reducible refine hH.mono ?_
  rintro e w1 ⟨rfl, rfl⟩
  go_wp2_with fail
  go_quiet (fail)
  have HV0 := hid (HD.out ‹Nat›)
  clear c0 c1 hH hlen HD
  go_wp2_with fail
  generalize w1.drewN _ = w2 at *
  have HV : Hid (Below w1.heap.size w1 w2.drew) := HV0.out.drew
  obtain ⟨k1, k2⟩ := HK.out _ HV.out
  have k3 := fun o => (HK.out _ (HAl.out _ HV.out o)).1
  have k4 := fun o => (HK.out _ (HAl.out _ HV.out o)).2
  go_region_law
    (first
      | (refine step_app_ex (by rfl) 24 (by rfl) (.const (.slice none 0 0)) (.tmp 23) 27 (by rfl) _ _ (by first | (simp [Act.eval]; done) | (simp [Act.eval, Act.put]; done)) (by first | (simp [Act.eval]; done) | (simp [Act.eval, Act.put]; done)) (HA1.out _ HV.out) ?_; rintro x1 W1 ⟨o1, b1, b1'⟩; replace HV := hid b1; have HO1 := hid o1; (try replace HM1 := hid (HM1.out.below b1')); clear o1 b1 b1' HA1 k1 k2 k3 k4; obtain ⟨k1, k2⟩ := HK.out _ HV.out; have k3 := fun o => (HK.out _ (HAl.out _ HV.out o)).1; have k4 := fun o => (HK.out _ (HAl.out _ HV.out o)).2)
      | (refine step_app_ex (by rfl) 24 (by rfl) (.const (.slice none 0 0)) (.tmp 23) 27 (by rfl) _ _ (by first | (simp [Act.eval]; done) | (simp [Act.eval, Act.put]; done)) (by first | (simp [Act.eval]; done) | (simp [Act.eval, Act.put]; done)) (HA1.out _ (HAl.out _ HV.out _)) ?_; rintro x1 W1 ⟨o1, b1, b1'⟩; have HO1 := hid o1; have HB1 := hid (block_bel (heap_alloc_new _ _) b1'); replace HM1 := hid ((HM1.out.below ((Below.refl _ _).alloc (Nat.le_refl _) _)).below b1'); replace HV := hid b1; clear o1 b1 b1' HA1 k1 k2 k3 k4; obtain ⟨k1, k2⟩ := HK.out _ HV.out; have k3 := fun o => (HK.out _ (HAl.out _ HV.out o)).1; have k4 := fun o => (HK.out _ (HAl.out _ HV.out o)).2)
      | (refine step_app_ex (by rfl) 32 (by rfl) (.const (.slice none 0 0)) (.tmp 31) 36 (by rfl) _ _ (by first | (simp [Act.eval]; done) | (simp [Act.eval, Act.put]; done)) (by first | (simp [Act.eval]; done) | (simp [Act.eval, Act.put]; done)) (HA2.out _ HV.out) ?_; rintro x2 W2 ⟨xa, xc, rfl, m2, b2⟩; have HM1 := hid (m2.low HV.out.size); (try replace HO1 := hid (own_below HO1.out b2)); replace HV := hid (HV.out.trans (b2.mono HV.out.size)); clear m2 b2 HA2 k1 k2 k3 k4; obtain ⟨k1, k2⟩ := HK.out _ HV.out; have k3 := fun o => (HK.out _ (HAl.out _ HV.out o)).1; have k4 := fun o => (HK.out _ (HAl.out _ HV.out o)).2)
      | (refine step_app_ex (by rfl) 34 (by rfl) (.tmp 24) (.tmp 33) 27 (by rfl) _ _ (by first | (simp [Act.eval]; done) | (simp [Act.eval, Act.put]; done)) (by first | (simp [Act.eval]; done) | (simp [Act.eval, Act.put]; done)) (HA3.out _ _ _ _ HV.out HO1.out HM1.out) ?_; rintro x3 W3 ⟨g3, c3, rfl, o3, b3, k5⟩; have HY := hid (HE.out _ _ _ _ _ HV.out HM1.out b3 k5 o3); obtain ⟨c7, _⟩ := HK.out _ b3; have f7 := HF.out _ b3; clear o3 b3 k5 HA3 k1 k2 k3 k4)
      | (refine step_app_ex (by rfl) 34 (by rfl) (.tmp 24) (.tmp 33) 27 (by rfl) _ _ (by first | (simp [Act.eval]; done) | (simp [Act.eval, Act.put]; done)) (by first | (simp [Act.eval]; done) | (simp [Act.eval, Act.put]; done)) (HA4.out _ _ _ _ _ HV.out HO1.out HM1.out HB1.out) ?_; rintro x3 W3 ⟨g3, c3, rfl, o3, b3, k5⟩; have HY := hid (HE.out _ _ _ _ _ HV.out HM1.out b3 k5 o3); obtain ⟨c7, _⟩ := HK.out _ b3; have f7 := HF.out _ b3; clear o3 b3 k5 HA4 k1 k2 k3 k4)
      | fail)
  all_goals
    clear HF HAl HX HK HE
    go_wp2_with fail
    go_ret
    exact ⟨rfl, HY.out⟩
/-- A message of a new row is turned. -/
theorem rturn_end (h : LrAt B w b v us S) {i : Nat} {u : Value} {zs : List Int} (hu : us[i]? = some u) (hz : S.ms[i]? = some zs) {u' : Value} {ys : List Int} {W : World} (hb : Below w.heap.size w W) (hm : MsgAt w.heap.size W u' ys) {g n cap : Nat} (ho : W.ownsRow w.heap.size 36 1 (.slice (some ⟨g, 0, none⟩) n cap) n us) :
    LrAt B ((W.setCell ⟨g, i, none⟩ u').setCell ⟨b, 1, none⟩ (.slice (some ⟨g, 0, none⟩) n cap)) b (.slice (some ⟨g, 0, none⟩) n cap) (us.set i u') (S.put (S.ms.set i ys)) ∧ Fb (at1 b) w ((W.setCell ⟨g, i, none⟩ u').setCell ⟨b, 1, none⟩ (.slice (some ⟨g, 0, none⟩) n cap)) ∧ ∀ k, lkF b (.slice (some ⟨g, 0, none⟩) n cap) (us.set i u') k → lkF b v us k ∨ w.heap.size ≤ k := by
  have hB : B ≤ w.heap.size := by have := h.hb; have := h.blt; omega
  have hg : w.heap.size ≤ g := (ho.lt g rfl).1
  have hn : us.length = n := by have := ho.1; omega
  have hb2 : Below w.heap.size w (W.setCell ⟨g, i, none⟩ u') := hb.setCell hg _
  refine rrow_end h hb2 ?_ (by rw [List.length_set, List.length_set]; exact h.len) (fun j x xs hx hy => ?_) (by rw [List.length_set]; exact h.ok.ms) fun k hk => ?_
  · rw [List.length_set, hn]
    exact (ho.stored i u').1
  · have hx2 : MsgAt B W x xs := by
      rw [List.getElem?_set] at hx hy
      by_cases hij : i = j
      · rw [if_pos hij] at hx hy
        have hl : j < us.length := by rw [← hij]; exact (List.getElem?_eq_some_iff.1 hu).1
        rw [if_pos (by omega)] at hx
        rw [if_pos (by rw [← h.len]; omega)] at hy
        cases hx
        cases hy
        exact hm.low hB
      · rw [if_neg hij] at hx hy
        exact (h.msg j x xs hx hy).below hb
    exact hx2.same fun k hk => Below.heap_setCell _ _ _ _ fun e => row_msg ho hx2 (k := g) rfl (by rw [hk, show k = g from e])
  · obtain ⟨x, hx, e⟩ := hk
    rcases List.mem_or_eq_of_mem_set hx with hx | rfl
    · exact .inl (.inr ⟨x, hx, e⟩)
    · exact .inr (hm.lt e).1
set_option maxHeartbeats 2000000 in
theorem rturn_yes (h : LrAt B w b v us S) {i : Nat} {u : Value} {zs : List Int} (hu : us[i]? = some u) (hz : S.ms[i]? = some zs) {p mask : Int} (hp : isI p) (hk : isW mask) :
    Calls Try.prog 21 #[.pointer (some ⟨b, 0, none⟩), .int .i64 i, .int .i64 p, .int .u32 mask] w fun e w' => e = .returned (.int .i64 0) ∧ Hid (GoesR B w b v us (S.put (S.ms.set i (burstL zs p mask 32))).spun w') := by
  have hi : i < S.ms.length := (List.getElem?_eq_some_iff.1 hz).1
  have hH := rhas_any h i
  rw [decide_eq_true (show (0 : Int) ≤ i ∧ (i : Int) < S.ms.length by omega)] at hH
  have c1 := h.cells.2.1
  obtain ⟨g, cap, hv, v1, v2⟩ := h.form (by omega)
  have hm := h.msg i u zs hu hz
  have hc := h.ok.tu
  have r1 := h.ok.r1
  have r2 := h.ok.ms
  obtain ⟨a, c, rfl, hr⟩ := hm.reads
  obtain ⟨x1, W1, e1, o1, b1, _⟩ := rcopy h hv w (Below.refl _ _)
  have hn0 : us.length = S.ms.length := h.len
  rw [hn0] at o1
  obtain ⟨g1, d1, hx1, _⟩ := o1.form (by omega)
  subst hx1
  have hdd : S.ms.length ≤ d1 := by
    rcases o1.2 with ⟨e, _⟩ | ⟨q, dd, cur, e, _, _, h1, _⟩
    · cases e
    · cases e; exact h1
  have HD1 := hid (show d1 ≤ 9223372036854775807 by
    rcases o1.2 with ⟨e, _⟩ | ⟨q, dd, cur, e, _, _, _, h2, _⟩
    · cases e
    · cases e; unfold maxLen at h2; omega)
  have hbd : Below w.heap.size w W1 := b1
  have HB : Hid (Calls Try.prog 39 #[.slice a zs.length c, .int .i64 p, .int .u32 mask] W1 fun e w' => ∃ v', e = .returned v' ∧ w'.ownsRow W1.heap.size 5 1 v' zs.length ((burstL zs p mask 32).map (Value.int .u8)) ∧ Below W1.heap.size W1 w') := rburst_any a zs.length c zs p mask W1 (hr.below hbd) hm.bs hm.len hp.1 hp.2 hk.1 hk.2
  have HM : Hid (∀ (w2 : World) (u' : Value), w2.ownsRow W1.heap.size 5 1 u' zs.length ((burstL zs p mask 32).map (Value.int .u8)) → MsgAt w.heap.size w2 u' (burstL zs p mask 32)) := fun w2 u' ho => MsgAt.low ⟨by rw [burstL_len]; exact ho, burstL_bytes hm.bs _ _ _, by rw [burstL_len]; exact hm.len⟩ hbd.size
  have HV1 : Hid (Below w.heap.size w W1) := hbd
  have HR : Hid (∀ w2, Below W1.heap.size W1 w2 → w2.ownsRow w.heap.size 36 1 (.slice (some ⟨g1, 0, none⟩) S.ms.length d1) S.ms.length us) := fun w2 hb => own_below o1 hb
  have HE : Hid (∀ (w2 : World) (u' : Value), Below w.heap.size w w2 → Below W1.heap.size W1 w2 → MsgAt w.heap.size w2 u' (burstL zs p mask 32) → _) := fun w2 u' hb hb1 hm' => rturn_end h hu hz hb hm' (HR.out w2 hb1)
  have hg1 : w.heap.size ≤ g1 := (o1.lt g1 rfl).1
  have HK : Hid (∀ W : World, Below w.heap.size w W → W.cell? ⟨b, 1, none⟩ = some v ∧ W.cell? ⟨g, i, none⟩ = some (.slice a zs.length c)) := fun W hb => ⟨(h.below hb).cells.2.1, (h.below hb).at hv hu⟩
  have HS : Hid (∀ (W : World) (x : Value), Below w.heap.size w W → Below w.heap.size w (W.setCell ⟨g1, i, none⟩ x)) := fun W x hb => hb.setCell hg1 _
  have HT : Hid (∀ (W : World), Below W1.heap.size W1 W → W.cell? ⟨g1, i, none⟩ = some (.slice a zs.length c) ∧ W.frozen? ⟨g1, i, none⟩ = false) := fun W hb => by
    have := HR.out W hb
    exact ⟨by rw [this.cellAt i (by omega), hu], this.frozenAt i⟩
  have HF : Hid (∀ W : World, Below w.heap.size w W → W.frozen? ⟨b, 1, none⟩ = false) := fun W hb => (h.below hb).frozen 1
  have HE1 := hid e1
  have hi0 : (0 : Int) ≤ (i : Int) := by omega
  have hi1 : (i : Int) < (S.ms.length : Int) := by omega
  have HTu : Hid (∀ W : World, Below w.heap.size w W → W.cell? ⟨b, 5, none⟩ = some (.int .u32 S.tu)) := fun W hb => (h.below hb).cells.2.2.2.2.2
  clear h hu hz hm hr o1 e1 hg1 hn0 hbd
  subst hv
  generalize hnn : S.ms.length = n at *
  generalize zs.length = m at *
  clear hnn
  obtain ⟨k1, k2⟩ := HK.out _ HV1.out
  go_enter Try.func21, Try.ntmps21
  go_wp2_with fail
  with_reducible refine hH.mono ?_
  rintro e w1 ⟨rfl, rfl⟩
  go_wp2_with (at_builtin; refine wpList_app_eq rfl (.const (.slice none 0 0)) (.tmp 17) 27 rfl _ _ _ _ rfl rfl HE1.out ?_)
  with_reducible refine HB.out.mono ?_
  rintro e w2 ⟨u2, rfl, ho, hb⟩
  obtain ⟨p2, d2, rfl, _⟩ := Reads.own (k := .u8) ho
  have HV2 := hid (HV1.out.trans (hb.mono HV1.out.size))
  have HW2 := hid hb
  have HM2 := hid (HM.out _ _ ho)
  obtain ⟨c7, f7⟩ := HT.out _ HW2.out
  clear hb ho HB c1 hH HE1 k1 k2
  have HX := hid (HE.out _ _ HV2.out HW2.out HM2.out)
  have HV3 := hid (HS.out _ (.slice p2 m d2) HV2.out)
  obtain ⟨c8, _⟩ := HK.out _ HV3.out
  have f8 := HF.out _ HV3.out
  have c9 := HTu.out _ HV3.out
  clear HE HK HS HT HF HTu HM HR
  go_wp2_with fail
  generalize w2.setCell ⟨g1, i, none⟩ (.slice p2 m d2) = w3 at *
  generalize w3.setCell ⟨b, 1, none⟩ (.slice (some ⟨g1, 0, none⟩) n d1) = w4 at *
  have hU := rup_any S.tu w4 hc
  with_reducible refine hU.mono ?_
  rintro e w5 ⟨rfl, rfl⟩
  have d5 := HX.out.1.cells.2.2.2.2.2
  change w5.cell? _ = some (.int .u32 S.tu) at d5
  have f5 := HX.out.1.frozen 5
  clear c8 f8 c9 hU
  go_wp2_with fail
  go_ret
  exact ⟨rfl, _, _, HX.out.1.spun, HX.out.2.1.trans (fb_one ..) fun k hk => .inl hk, HX.out.2.2⟩
end Go.Proofs.Ytlhmalmmligkkaa
