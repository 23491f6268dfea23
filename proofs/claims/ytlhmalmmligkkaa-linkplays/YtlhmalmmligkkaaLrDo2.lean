/-
  The document's link: Send, Twice, Turn; what is asked of a place that is none.
-/
import Derived.Test.YtlhmalmmligkkaaLrDo
namespace Go.Proofs.Ytlhmalmmligkkaa
open Go.RowKit
set_option linter.unusedVariables false
set_option maxRecDepth 1000000
variable {B b : Nat} {w w' : World} {v : Value} {us : List Value} {S : Lm}

theorem LrAt.slc (h : LrAt B w b v us S) : ∃ ao n c, v = .slice ao n c ∧ n = S.ms.length := by
  rcases id h.row.2 with ⟨e, e0⟩ | ⟨g, cap, cur, e, _⟩
  · exact ⟨_, _, _, e, by rw [← h.len, e0]⟩
  · exact ⟨_, _, _, e, h.len⟩
theorem LrAt.goes (h : LrAt B w' b v us S) (hf : Fb (at1 b) w w') : GoesR B w b v us S w' := ⟨v, us, h, hf, fun k hk => .inl hk⟩
theorem GoesR.then {S2 : Lm} {w1 w2 : World} (h1 : Fb (at1 b) w w1) (h : GoesR B w1 b v us S2 w2) : GoesR B w b v us S2 w2 := by
  obtain ⟨v', us', a1, a2, a3⟩ := h
  exact ⟨v', us', a1, h1.trans a2 fun k hk => .inl hk, fun k hk => (a3 k hk).imp id fun hs => Nat.le_trans h1.size hs⟩
/-- One more message in new memory. -/
theorem radd_end (h : LrAt B w b v us S) (hl : S.ms.length < S.room) {ua : Option Addr} {un uc : Nat} {zs : List Int} {W W3 : World} {v' : Value} (hb : Below w.heap.size w W) (hm : MsgAt w.heap.size W (.slice ua un uc) zs) (hb3 : Below w.heap.size w W3) (hk : ∀ (u : Value) (ys : List Int) (B' : Nat), MsgAt B' W u ys → MsgAt B' W3 u ys)
    (o : W3.ownsRow w.heap.size 36 1 v' (us ++ [Value.slice ua un uc]).length (us ++ [Value.slice ua un uc])) : GoesR B w b v us (S.put (S.ms ++ [zs])) (W3.setCell ⟨b, 1, none⟩ v') := by
  have hB : B ≤ w.heap.size := by have := h.hb; have := h.blt; omega
  refine ⟨v', _, rrow_end h hb3 o (by simp [h.len]) (msgs_app h.len (fun j u zs hu hz => hk _ _ _ ((h.msg j u zs hu hz).below hb)) (hk _ _ _ (hm.low hB))) (by simp; omega) fun k hk => ?_⟩
  obtain ⟨x, hx, e⟩ := hk
  rcases List.mem_append.1 hx with hx | hx
  · exact .inl (.inr ⟨x, hx, e⟩)
  · rw [List.mem_singleton.1 hx] at e
    exact .inr (hm.lt e).1
theorem rsend_any (h : LrAt B w b v us S) (a : Option Addr) (len cap : Nat) (zs : List Int) (hr : Reads .u8 w a len cap zs) (hz : IsBytes zs) (hlen : len ≤ 140737488351232) (hF : 0 < len → ∀ p, a = some p → ¬ at1 b p.block) :
    Calls Try.prog 24 #[.pointer (some ⟨b, 0, none⟩), .slice a len cap] w fun e w' => e = .returned (.int .i64 S.sendE) ∧ Hid (GoesR B w b v us (S.send zs) w') := by
  have c2 := h.cells.2.2.1
  have f2 := h.frozen 2
  have hU := rup_any S.se w h.ok.se
  obtain ⟨w2, hw2⟩ : ∃ w2, w2 = w.setCell ⟨b, 2, none⟩ (.int .u32 (upZ S.se 1)) := ⟨_, rfl⟩
  have h2 : LrAt B w2 b v us S.sent := by rw [hw2]; exact h.sent
  have hf2 : Fb (at1 b) w w2 := by rw [hw2]; exact fb_one ..
  have hr2 := hr.fb hf2 hF
  obtain ⟨ao, n, c, hv, hn⟩ := h.slc
  have HD : Hid (∀ k : Nat, Below w2.heap.size w2 (w2.drewN k)) := fun k => ⟨rfl, rfl, rfl, Nat.le_refl _, fun _ _ => rfl⟩
  have c0 : w2.cell? ⟨b, 0, none⟩ = some (.int .i64 S.room) := h2.cells.1
  have c1 := h2.cells.2.1
  have hlen2 := h2.vlen
  change ∀ (ty : TypeId) (W : World), (Builtin.len_ #[27] ty #[v]).run Try.prog W = .ok (.int .i64 S.ms.length) W at hlen2
  by_cases hf : S.room ≤ S.ms.length
  · have HE : Hid (S.send zs = S.sent.lost 1 ∧ S.sendE = 9) := ⟨if_pos hf, if_pos hf⟩
    rw [HE.out.2]
    have c4 : ∀ k, (w2.drewN k).cell? ⟨b, 4, none⟩ = some (.int .u32 S.dr) := fun k => (h2.below (HD.out k)).cells.2.2.2.2.1
    have f4 : ∀ k, (w2.drewN k).frozen? ⟨b, 4, none⟩ = false := fun k => (h2.below (HD.out k)).frozen 4
    have hU2 := fun k => rup_any S.dr (w2.drewN k) h.ok.dr
    have HX : Hid (∀ k, GoesR B w b v us (S.send zs) ((w2.drewN k).setCell ⟨b, 4, none⟩ (.int .u32 (upZ S.dr 1)))) := fun k => by
      rw [HE.out.1]
      have h3 := (h2.below (HD.out k)).lost
      exact h3.goes ((hf2.trans (Fb.of (HD.out k) : Fb (at1 b) w2 _) fun k hk => .inl hk).trans (fb_one ..) fun k hk => .inl hk)
    clear h h2 hr hr2 hz hF hf2 hv hn
    go_enter Try.func24, Try.ntmps24
    go_wp2_with fail
    with_reducible refine hU.mono ?_
    rintro e w1 ⟨rfl, rfl⟩
    go_wp2_with fail
    rw [← hw2]
    clear hw2 c2 f2
    go_quiet (fail)
    go_wp2_with fail
    with_reducible refine (hU2 _).mono ?_
    rintro e w3 ⟨rfl, rfl⟩
    go_wp2_with fail
    go_ret
    exact ⟨rfl, HX.out _⟩
  · have HE : Hid (S.send zs = S.sent.put (S.sent.ms ++ [zs]) ∧ S.sendE = 0) := ⟨if_neg hf, if_neg hf⟩
    rw [HE.out.2]
    have HC : Hid (∀ k : Nat, ∃ v1 W1 ua uc W2 g3 c3 W3, (Builtin.append_ #[27, 27] 27 #[.slice none 0 0, .slice ao n c]).run Try.prog (w2.drewN k) = .ok v1 W1 ∧ (Builtin.append_ #[36, 36] 36 #[.slice none 0 0, .slice a len cap]).run Try.prog W1 = .ok (.slice ua zs.length uc) W2 ∧
        (Builtin.append_ #[27, 27] 27 #[v1, .slice (some ⟨W2.heap.size, 0, none⟩) 1 1]).run Try.prog (W2.alloc (.cells #[.slice ua zs.length uc] 36)) = .ok (.slice (some ⟨g3, 0, none⟩) (us.length + 1) c3) W3 ∧
        W3.cell? ⟨b, 1, none⟩ = some v ∧ W3.frozen? ⟨b, 1, none⟩ = false ∧ Hid (GoesR B w b v us (S.send zs) (W3.setCell ⟨b, 1, none⟩ (.slice (some ⟨g3, 0, none⟩) (us.length + 1) c3)))) := fun k => by
      obtain ⟨v1, W1, e1, o1, b1, b1'⟩ := rcopy h2 hv (w2.drewN k) (HD.out k)
      obtain ⟨ua, uc, W2, e2, m2, b2⟩ := run_bapp W1 a len cap zs (hr2.below b1) hz hlen 36
      have b12 := b1.trans (b2.mono b1.size)
      obtain ⟨g3, c3, W3, e3, o3, b3, k3⟩ := rmore (B := W1.heap.size) b12 (own_below o1 b2) (by rw [h.len]; exact Nat.le_trans h.ok.ms h.ok.r1) m2
      refine ⟨v1, W1, ua, uc, W2, g3, c3, W3, e1, e2, e3, (h2.below b3).cells.2.1, (h2.below b3).frozen 1, ?_⟩
      rw [HE.out.1]
      exact GoesR.then hf2 (radd_end h2 (show S.ms.length < S.room by omega) b12 (m2.low b1.size) b3 k3 o3)
    clear h h2 hr hr2 hz hF hf2 hlen2
    rw [← hn] at hf
    clear hn
    subst hv
    go_enter Try.func24, Try.ntmps24
    go_wp2_with fail
    with_reducible refine hU.mono ?_
    rintro e w1 ⟨rfl, rfl⟩
    go_wp2_with fail
    rw [← hw2]
    clear hw2 c2 f2
    go_quiet (fail)
    obtain ⟨v1, W1, ua, uc, W2, g3, c3, W3, e1, e2, e3, d1, f1, HX⟩ := HC.out ‹Nat›
    have HE1 := hid e1
    have HE2 := hid e2
    have HE3 := hid e3
    clear HC e1 e2 e3 HD HE hU
    generalize zs.length = zn at *
    generalize us.length + 1 = un at *
    go_wp2_with (at_builtin; first | (refine wpList_app_eq rfl (.const (.slice none 0 0)) (.tmp 35) 27 rfl _ _ _ _ rfl rfl HE1.out ?_) | (refine wpList_app_eq rfl (.const (.slice none 0 0)) (.tmp 37) 36 rfl _ _ _ _ rfl rfl HE2.out ?_) | (refine wpList_app_eq rfl (.tmp 36) (.tmp 39) 27 rfl _ _ _ _ rfl rfl HE3.out ?_))
    go_ret
    exact ⟨rfl, HX⟩
section None
variable {i : Int}
theorem rdeliver_no (h : LrAt B w b v us S) (hi : ¬ (0 ≤ i ∧ i < S.ms.length)) : Calls Try.prog 13 #[.pointer (some ⟨b, 0, none⟩), .int .i64 i] w fun e w' => e = .returned (.tuple #[.slice none 0 0, .int .i64 6]) ∧ w' = w := by
  have hH := rhas_any h i
  rw [decide_eq_false hi] at hH
  clear h hi
  go_enter Try.func13, Try.ntmps13
  go_wp2_with fail
  with_reducible refine hH.mono ?_
  rintro e w1 ⟨rfl, rfl⟩
  go_wp2_with fail
  go_ret2
  exact ⟨rfl, rfl⟩
theorem rdrop_no (h : LrAt B w b v us S) (hi : ¬ (0 ≤ i ∧ i < S.ms.length)) : Calls Try.prog 15 #[.pointer (some ⟨b, 0, none⟩), .int .i64 i] w fun e w' => e = .returned (.int .i64 6) ∧ w' = w := by
  have hH := rhas_any h i
  rw [decide_eq_false hi] at hH
  clear h hi
  go_enter Try.func15, Try.ntmps15
  go_wp2_with fail
  with_reducible refine hH.mono ?_
  rintro e w1 ⟨rfl, rfl⟩
  go_wp2_with fail
  go_ret
  exact ⟨rfl, rfl⟩
theorem rtwice_no (h : LrAt B w b v us S) (hi : ¬ (0 ≤ i ∧ i < S.ms.length)) : Calls Try.prog 17 #[.pointer (some ⟨b, 0, none⟩), .int .i64 i] w fun e w' => e = .returned (.int .i64 6) ∧ w' = w := by
  have hH := rhas_any h i
  rw [decide_eq_false hi] at hH
  clear h hi
  go_enter Try.func17, Try.ntmps17
  go_wp2_with fail
  with_reducible refine hH.mono ?_
  rintro e w1 ⟨rfl, rfl⟩
  go_wp2_with fail
  go_ret
  exact ⟨rfl, rfl⟩
theorem rlater_no (h : LrAt B w b v us S) (hi : ¬ (0 ≤ i ∧ i < S.ms.length)) : Calls Try.prog 19 #[.pointer (some ⟨b, 0, none⟩), .int .i64 i] w fun e w' => e = .returned (.int .i64 6) ∧ w' = w := by
  have hH := rhas_any h i
  rw [decide_eq_false hi] at hH
  clear h hi
  go_enter Try.func19, Try.ntmps19
  go_wp2_with fail
  with_reducible refine hH.mono ?_
  rintro e w1 ⟨rfl, rfl⟩
  go_wp2_with fail
  go_ret
  exact ⟨rfl, rfl⟩
theorem rturn_no (h : LrAt B w b v us S) (hi : ¬ (0 ≤ i ∧ i < S.ms.length)) (pl mask : Int) : Calls Try.prog 21 #[.pointer (some ⟨b, 0, none⟩), .int .i64 i, .int .i64 pl, .int .u32 mask] w fun e w' => e = .returned (.int .i64 6) ∧ w' = w := by
  have hH := rhas_any h i
  rw [decide_eq_false hi] at hH
  clear h hi
  go_enter Try.func21, Try.ntmps21
  go_wp2_with fail
  with_reducible refine hH.mono ?_
  rintro e w1 ⟨rfl, rfl⟩
  go_wp2_with fail
  go_ret
  exact ⟨rfl, rfl⟩
end None
end Go.Proofs.Ytlhmalmmligkkaa
