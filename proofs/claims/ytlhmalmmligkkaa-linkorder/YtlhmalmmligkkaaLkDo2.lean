/-
  Package link: Send, Deliver, Drop, Later.
-/
import Derived.Test.YtlhmalmmligkkaaLkDo
namespace Go.Proofs.Ytlhmalmmligkkaa
open Go.RowKit
set_option linter.unusedVariables false
set_option maxRecDepth 1000000
variable {B b : Nat} {w w' : World} {v : Value} {us : List Value} {S : Lm}

/-- What Send makes of it. -/
def Lm.send (S : Lm) (zs : List Int) : Lm := if S.room ≤ S.ms.length then S.sent.lost 1 else S.sent.put (S.ms ++ [zs])
def Lm.sendE (S : Lm) : Int := if S.room ≤ S.ms.length then 9 else 0
theorem new_off {us : List Value} {u : Value} {zs : List Int} {n : Nat} {w1 : World} (h : LkAt B w b v us S) (hm : MsgAt n w1 u zs) (hn : w.heap.size ≤ n) : ∀ k, u.ownBlock = some k → ¬ msF us k := fun k hk hf => by
  have := (hm.lt hk).1
  have := (h.lt2 hf).2
  omega
/-- A message in new memory is added. -/
theorem ladd_new {u : Value} {zs : List Int} {w1 : World} (h : LkAt B w b v us S) (hb : Below w.heap.size w w1) (hm : MsgAt w.heap.size w1 u zs) (hl : S.ms.length < S.room) :
    Calls Try.prog 36 #[.pointer (some ⟨b, 0, none⟩), u] w1 fun e w' => e = .returned (.tuple #[]) ∧ Hid (Goes B w b v us (S.put (S.ms ++ [zs])) w') := by
  have hB : B ≤ w.heap.size := by have := h.hb; have := h.blt; omega
  refine (ladd_any (h.below hb) (hm.low hB) (new_off h hm (Nat.le_refl _)) hl).mono ?_
  rintro e w' ⟨rfl, H⟩
  obtain ⟨v', h1, h2, h3⟩ := H.out
  refine ⟨rfl, v', _, h1, (Fb.of hb : Fb (rwF b v) w w1).trans h2 fun k hk => .inl hk, fun k hk => ?_⟩
  rcases hk with (rfl | e) | ⟨x, hx, e⟩
  · exact .inl (.inl (.inl rfl))
  · rcases h3 k e with e' | e'
    · exact .inl (.inl (.inr e'))
    · exact .inr (Nat.le_trans hb.size e')
  · rcases List.mem_append.1 hx with hx | hx
    · exact .inl (.inr ⟨x, hx, e⟩)
    · rw [List.mem_singleton.1 hx] at e
      exact .inr (hm.lt e).1
set_option maxHeartbeats 2000000 in
theorem lsend_any (h : LkAt B w b v us S) (a : Option Addr) (len cap : Nat) (zs : List Int) (hr : Reads .u8 w a len cap zs) (hz : IsBytes zs) (hlen : len ≤ 140737488351232) (hF : 0 < len → ∀ p, a = some p → ¬ rwF b v p.block) :
    Calls Try.prog 23 #[.pointer (some ⟨b, 0, none⟩), .slice a len cap] w fun e w' => e = .returned (.int .i64 S.sendE) ∧ Hid (Goes B w b v us (S.send zs) w') := by
  have hM := lmade_yes h
  obtain ⟨_, _, c2, c3, _⟩ := h.cells
  have hU := cup_any S.se 1 w h.ok.se ⟨by decide, by decide⟩
  have HW : Hid (∀ w1, Below w.heap.size w w1 → w1.cell? ⟨b, 2, none⟩ = some (.int .u32 S.se) ∧ w1.cell? ⟨b, 3, none⟩ = some (.int .u32 4294967295) ∧ w1.frozen? ⟨b, 2, none⟩ = false ∧ w1.frozen? ⟨b, 3, none⟩ = false) := fun w1 hb =>
    ⟨(h.below hb).cells.2.2.1, (h.below hb).cells.2.2.2.1, (h.below hb).frozen 2, (h.below hb).frozen 3⟩
  have HS : Hid (∀ w1 w2, Below w.heap.size w w1 → w2 = (w1.setCell ⟨b, 2, none⟩ (.int .u32 (upZ S.se 1))).setCell ⟨b, 3, none⟩ (.int .u32 4294967295) → LkAt B w2 b v us S.sent ∧ Fb (rwF b v) w w2) := fun w1 w2 hb e => by
    rw [e]
    exact ⟨(h.below hb).sent, (Fb.of hb : Fb (rwF b v) w w1).trans (fb_at w1 v _ _) fun k hk => .inl hk⟩
  by_cases hf : S.room ≤ S.ms.length
  · have HE : Hid (S.send zs = S.sent.lost 1 ∧ S.sendE = 9) := ⟨if_pos hf, if_pos hf⟩
    rw [HE.out.2]
    have HL : Hid (∀ w2, LkAt B w2 b v us S.sent → Calls Try.prog 35 #[.pointer (some ⟨b, 0, none⟩)] w2 fun e w' => e = .returned (.bool true) ∧ Hid (Below w2.heap.size w2 w')) := fun w2 h2 => by
      have := lfull_any h2
      rwa [decide_eq_true (show S.sent.room ≤ S.sent.ms.length from hf)] at this
    have hd1 : isW S.sent.dr := h.ok.dr
    have HZ : Hid (∀ w2 w3 : World, Fb (rwF b v) w w2 → LkAt B w2 b v us S.sent → Below w2.heap.size w2 w3 → ∀ w4, w4 = (w3.setCell ⟨b, 6, none⟩ (.int .u32 (upZ S.sent.dr 1))).setCell ⟨b, 7, none⟩ (.int .u32 4294967295) → Goes B w b v us (S.send zs) w4) := fun w2 w3 hf2 h2 hb w4 e => by
      rw [HE.out.1, e]
      exact ((h2.below hb).lost (by decide)).goes ((hf2.trans (Fb.of hb : Fb (rwF b v) w2 w3) fun k hk => .inl hk).trans (fb_at w3 v _ _) fun k hk => .inl hk)
    clear h hr hz hF
    go_enter Try.func23, Try.ntmps23
    go_wp2_with fail
    with_reducible refine hM.mono ?_
    rintro e w1 ⟨rfl, rfl⟩
    go_wp2_with fail
    with_reducible refine hU.mono ?_
    rintro e w1 ⟨rfl, hb⟩
    obtain ⟨d2, d3, f2, f3⟩ := HW.out _ hb.out
    clear c2 c3
    go_wp2_with fail
    generalize hw2 : (w1.setCell ⟨b, 2, none⟩ (.int .u32 (upZ S.se 1))).setCell ⟨b, 3, none⟩ (.int .u32 4294967295) = w2 at *
    have H2 := hid (HS.out w1 w2 hb.out hw2.symm)
    clear hw2 d2 d3 f2 f3
    with_reducible refine (HL.out _ H2.out.1).mono ?_
    rintro e w3 ⟨rfl, hb3⟩
    obtain ⟨_, _, _, _, _, _, c6, c7, _⟩ := (H2.out.1.below hb3.out).cells
    have hU2 := cup_any S.sent.dr 1 w3 hd1 ⟨by decide, by decide⟩
    go_wp2_with fail
    with_reducible refine hU2.mono ?_
    rintro e w4 ⟨rfl, hb4⟩
    have H4 := hid (hb3.out.trans (hb4.out.mono hb3.out.size))
    obtain ⟨_, _, _, _, _, _, e6, e7, _⟩ := (H2.out.1.below H4.out).cells
    have f6 := (H2.out.1.below H4.out).frozen 6
    have f7 := (H2.out.1.below H4.out).frozen 7
    clear c6 c7
    go_wp2_with fail
    go_ret
    exact ⟨rfl, HZ.out w2 w4 H2.out.2 H2.out.1 H4.out _ rfl⟩
  · have HE : Hid (S.send zs = S.sent.put (S.sent.ms ++ [zs]) ∧ S.sendE = 0) := ⟨if_neg hf, if_neg hf⟩
    rw [HE.out.2]
    have HL : Hid (∀ w2, LkAt B w2 b v us S.sent → Calls Try.prog 35 #[.pointer (some ⟨b, 0, none⟩)] w2 fun e w' => e = .returned (.bool false) ∧ Hid (Below w2.heap.size w2 w')) := fun w2 h2 => by
      have := lfull_any h2
      rwa [decide_eq_false (show ¬ S.sent.room ≤ S.sent.ms.length from hf)] at this
    have HC : Hid (∀ w2 w3 : World, Fb (rwF b v) w w2 → Below w2.heap.size w2 w3 → Calls Try.prog 37 #[.slice a len cap] w3 fun e w' => ∃ u, e = .returned u ∧ MsgAt w3.heap.size w' u zs ∧ Hid (Below w3.heap.size w3 w')) := fun w2 w3 hf2 hb3 => clone_any a len cap zs w3 ((hr.fb hf2 hF).below hb3) hz hlen
    have HA : Hid (∀ (w2 w3 w4 : World) (u : Value), Fb (rwF b v) w w2 → LkAt B w2 b v us S.sent → Below w2.heap.size w2 w3 → MsgAt w3.heap.size w4 u zs → Below w3.heap.size w3 w4 → Calls Try.prog 36 #[.pointer (some ⟨b, 0, none⟩), u] w4 fun e w' => e = .returned (.tuple #[]) ∧ Hid (Goes B w b v us (S.send zs) w')) := fun w2 w3 w4 u hf2 h2 hb3 hm hb4 => by
      refine (ladd_new h2 (hb3.trans (hb4.mono hb3.size)) (hm.low hb3.size) (show S.ms.length < S.room by omega)).mono ?_
      rintro e w' ⟨rfl, H⟩
      rw [HE.out.1]
      exact ⟨rfl, H.out.then hf2 (fun k hk => .inl hk) fun k hk => .inl hk⟩
    clear h hr hz hF
    go_enter Try.func23, Try.ntmps23
    go_wp2_with fail
    with_reducible refine hM.mono ?_
    rintro e w1 ⟨rfl, rfl⟩
    go_wp2_with fail
    with_reducible refine hU.mono ?_
    rintro e w1 ⟨rfl, hb⟩
    obtain ⟨d2, d3, f2, f3⟩ := HW.out _ hb.out
    clear c2 c3
    go_wp2_with fail
    generalize hw2 : (w1.setCell ⟨b, 2, none⟩ (.int .u32 (upZ S.se 1))).setCell ⟨b, 3, none⟩ (.int .u32 4294967295) = w2 at *
    have H2 := hid (HS.out w1 w2 hb.out hw2.symm)
    clear hw2 d2 d3 f2 f3
    with_reducible refine (HL.out _ H2.out.1).mono ?_
    rintro e w3 ⟨rfl, hb3⟩
    go_wp2_with fail
    with_reducible refine (HC.out _ _ H2.out.2 hb3.out).mono ?_
    rintro e w4 ⟨u, rfl, hm, hb4⟩
    have Hm := hid hm
    clear hm
    go_wp2_with fail
    with_reducible refine (HA.out _ _ _ _ H2.out.2 H2.out.1 hb3.out Hm.out hb4.out).mono ?_
    rintro e w5 ⟨rfl, H5⟩
    go_wp2_with fail
    go_ret
    exact ⟨rfl, H5⟩
theorem own_left {us : List Value} (h : (us.filterMap Value.ownBlock).Nodup) {i : Nat} {u : Value} (hu : us[i]? = some u) {k : Nat} (hk : u.ownBlock = some k) : ¬ msF (us.eraseIdx i) k := by
  induction us generalizing i with
  | nil => simp at hu
  | cons x us ih =>
    cases i with
    | zero =>
      simp only [List.getElem?_cons_zero, Option.some.injEq] at hu
      subst hu
      rw [List.filterMap_cons, hk] at h
      rintro ⟨y, hy, e⟩
      exact (List.nodup_cons.1 h).1 (List.mem_filterMap.2 ⟨y, by simpa using hy, e⟩)
    | succ i =>
      simp only [List.getElem?_cons_succ] at hu
      have h2 : (us.filterMap Value.ownBlock).Nodup := ((List.sublist_cons_self x us).filterMap _).nodup h
      rintro ⟨y, hy, e⟩
      rw [List.eraseIdx_cons_succ] at hy
      rcases List.mem_cons.1 hy with rfl | hy
      · rw [List.filterMap_cons, e] at h
        exact (List.nodup_cons.1 h).1 (List.mem_filterMap.2 ⟨u, List.mem_of_getElem? hu, hk⟩)
      · exact ih h2 hu ⟨y, hy, e⟩
/-- A message comes. -/
theorem ldeliver_yes (h : LkAt B w b v us S) {i : Nat} {u : Value} (hu : us[i]? = some u) :
    Calls Try.prog 12 #[.pointer (some ⟨b, 0, none⟩), .int .i64 i] w fun e w' => e = .returned (.tuple #[u, .int .i64 0]) ∧ Hid (∃ v', LkAt B w' b v' (us.eraseIdx i) (S.less i).came ∧ Fb (rwF b v) w w' ∧ v'.ownBlock = v.ownBlock) := by
  have hT := lask_take h hu
  have hc := h.ok.ca
  unfold takeV at hT
  clear h hu
  go_enter Try.func12, Try.ntmps12
  go_wp2_with fail
  with_reducible refine hT.mono ?_
  rintro e w1 ⟨rfl, H⟩
  obtain ⟨v1, H1x⟩ := H.out
  have H1 := hid H1x
  obtain ⟨_, _, _, _, c4, c5, _⟩ := H1.out.1.cells
  have hU := cup_any S.ca 1 w1 hc ⟨by decide, by decide⟩
  change w1.cell? _ = some (.int .u32 S.ca) at c4
  clear H1x H
  go_wp2_with fail
  with_reducible refine hU.mono ?_
  rintro e w2 ⟨rfl, hb⟩
  have h2 := H1.out.1.below hb.out
  obtain ⟨_, _, _, _, d4, d5, _⟩ := h2.cells
  have f4 := h2.frozen 4
  have f5 := h2.frozen 5
  have H2 := hid h2
  change w2.cell? _ = some (.int .u32 S.ca) at d4
  clear h2 c4 c5
  go_wp2_with fail
  go_ret2
  refine ⟨rfl, v1, H2.out.came, ?_, H1.out.2.2⟩
  exact (H1.out.2.1.trans (Fb.of hb.out : Fb (rwF b v) w1 w2) fun k hk => .inl hk).trans (fb_at w2 v _ _) fun k hk => .inl hk
theorem ldrop_yes (h : LkAt B w b v us S) {i : Nat} {u : Value} (hu : us[i]? = some u) :
    Calls Try.prog 14 #[.pointer (some ⟨b, 0, none⟩), .int .i64 i] w fun e w' => e = .returned (.int .i64 0) ∧ Hid (∃ v', LkAt B w' b v' (us.eraseIdx i) ((S.less i).lost 1) ∧ Fb (rwF b v) w w' ∧ v'.ownBlock = v.ownBlock) := by
  have hT := lask_take h hu
  have hc := h.ok.dr
  unfold takeV at hT
  clear h hu
  go_enter Try.func14, Try.ntmps14
  go_wp2_with fail
  with_reducible refine hT.mono ?_
  rintro e w1 ⟨rfl, H⟩
  obtain ⟨v1, H1x⟩ := H.out
  have H1 := hid H1x
  obtain ⟨_, _, _, _, _, _, c6, c7, _⟩ := H1.out.1.cells
  have hU := cup_any S.dr 1 w1 hc ⟨by decide, by decide⟩
  change w1.cell? _ = some (.int .u32 S.dr) at c6
  clear H1x H
  go_wp2_with fail
  with_reducible refine hU.mono ?_
  rintro e w2 ⟨rfl, hb⟩
  have h2 := H1.out.1.below hb.out
  obtain ⟨_, _, _, _, _, _, d6, d7, _⟩ := h2.cells
  have f6 := h2.frozen 6
  have f7 := h2.frozen 7
  have H2 := hid h2
  change w2.cell? _ = some (.int .u32 S.dr) at d6
  clear h2 c6 c7
  go_wp2_with fail
  go_ret
  refine ⟨rfl, v1, H2.out.lost (by decide), ?_, H1.out.2.2⟩
  exact (H1.out.2.1.trans (Fb.of hb.out : Fb (rwF b v) w1 w2) fun k hk => .inl hk).trans (fb_at w2 v _ _) fun k hk => .inl hk
theorem llater_yes (h : LkAt B w b v us S) {i : Nat} {u : Value} {zs : List Int} (hu : us[i]? = some u) (hz : S.ms[i]? = some zs) :
    Calls Try.prog 18 #[.pointer (some ⟨b, 0, none⟩), .int .i64 i] w fun e w' => e = .returned (.int .i64 0) ∧ Hid (Goes B w b v us (S.put (S.ms.eraseIdx i ++ [zs])) w') := by
  have hT := lask_take h hu
  have HM : Hid (MsgAt B w u zs) := h.msg i u zs hu hz
  have HO : Hid (∀ k, u.ownBlock = some k → ¬ msF (us.eraseIdx i) k) := fun k hk => own_left h.nd hu hk
  have hi : i < S.ms.length := (List.getElem?_eq_some_iff.1 hz).1
  have HN : Hid ((S.less i).ms.length < (S.less i).room) := by
    show (S.ms.eraseIdx i).length < S.room
    rw [List.length_eraseIdx, if_pos hi]
    have := h.ok.ms
    omega
  have HF : Hid (∀ (v' : Value) (w1 : World), v'.ownBlock = v.ownBlock → Fb (rwF b v) w w1 → MsgAt B w1 u zs) := fun v' w1 e hf => HM.out.same fun k hk => hf.block k (HM.out.lt hk).2 (h.off HM.out hk)
  have HK : Hid (u ∈ us) := List.mem_of_getElem? hu
  unfold takeV at hT
  clear h hu hz
  go_enter Try.func18, Try.ntmps18
  go_wp2_with fail
  with_reducible refine hT.mono ?_
  rintro e w1 ⟨rfl, H⟩
  obtain ⟨v1, H1x⟩ := H.out
  have H1 := hid H1x
  have hA := ladd_any H1.out.1 (HF.out v1 w1 H1.out.2.2 H1.out.2.1) HO.out HN.out
  clear H1x H
  go_wp2_with fail
  with_reducible refine hA.mono ?_
  rintro e w2 ⟨rfl, H2⟩
  go_wp2_with fail
  go_ret
  refine ⟨rfl, ?_⟩
  obtain ⟨v2, a1, a2, a3⟩ := H2.out
  have e1 : ∀ k, rwF b v1 k → rwF b v k := fun k hk => hk.elim .inl fun e => .inr (by rw [← H1.out.2.2]; exact e)
  refine ⟨v2, _, a1, H1.out.2.1.trans a2 fun k hk => .inl (e1 k hk), fun k hk => ?_⟩
  rcases hk with (rfl | e) | ⟨x, hx, e⟩
  · exact .inl (.inl (.inl rfl))
  · rcases a3 k e with e' | e'
    · exact .inl (.inl (e1 k (.inr e')))
    · exact .inr (Nat.le_trans H1.out.2.1.size e')
  · rcases List.mem_append.1 hx with hx | hx
    · exact .inl (.inr ⟨x, List.mem_of_mem_eraseIdx hx, e⟩)
    · rw [List.mem_singleton.1 hx] at e
      exact .inl (.inr ⟨u, HK.out, e⟩)
end Go.Proofs.Ytlhmalmmligkkaa
