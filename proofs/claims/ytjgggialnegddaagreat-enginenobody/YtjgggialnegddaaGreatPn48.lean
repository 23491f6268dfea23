/-
  The texts EnArr5, EnNew, EnStep of this proof.
-/
import Derived.Test.YtjgggialnegddaaGreatPn47
import Derived.Test.YtjgggialnegddaaGreatPn45
set_option linter.unusedVariables false
set_option maxRecDepth 1000000
namespace Go.Proofs.YtjgggialnegddaaGreat
open Go.RowKit Go.Maps
theorem own_lo {lo lo2 e size n : Nat} {v : Value} {xs : List Value} {w : World} (h : w.ownsRow lo2 e size v n xs) (hl : lo ≤ lo2) : w.ownsRow lo e size v n xs := by
 refine ⟨h.1, ?_⟩
 rcases h.2 with h | ⟨g, cap, cur, h1, h2, h3⟩
 ·exact .inl h
 ·exact .inr ⟨g, cap, cur, h1, Nat.le_trans hl h2, h3⟩
section
variable {w W W' : World} {B mb : Nat} {pm pc : Option Addr} {qv bv : Value} {nd : Int → Nat} {S : Rs} {bs qs : List At} {Fc It : Nat → Prop}
theorem ArG.up {S' : Rs} {ms : List Mg} {e : Ending} (h : EnI w B mb pm pc qv bv nd S bs qs Fc It) (hb : Below w.heap.size w W) (hA : ArG W B mb pm pc S' (enF B mb qv bv nd S Fc) It ms e W') : ArG w B mb pm pc S' (enF B mb qv bv nd S Fc) It ms e W' := by
 obtain ⟨v, ds, qv1, bv1, nd1, bs1, qs1, Fc1, It1, h1, h2, h3, h4, h5, h6⟩ := hA
 refine ⟨v, ds, qv1, bv1, nd1, bs1, qs1, Fc1, It1, h1, h2, ?_, fun k hk => (h4 k hk).elim .inl fun h' => .inr (Nat.le_trans hb.size h'), fun k hk => (h5 k hk).elim .inl fun h' => .inr (Nat.le_trans hb.size h'), (Fb.of hb).trans h6 fun k hk => .inl hk⟩
 refine ⟨?_, h3.len, fun i hi hd => ⟨(h3.li i hi hd).1, fun p hp => ⟨Nat.le_trans hb.size ((h3.li i hi hd).2 p hp).1, ((h3.li i hi hd).2 p hp).2⟩⟩⟩
 exact own_lo h3.own hb.size
theorem EnI.drain (h : EnI w B mb pm pc qv bv nd S bs qs Fc It) : EnI (w.setCell ⟨B, 6, none⟩ (.bool true)) B mb pm pc qv bv nd { S with dr := true } bs qs Fc It ∧ Fb (enF B mb qv bv nd S Fc) w (w.setCell ⟨B, 6, none⟩ (.bool true)) := by
 have hb : Fb (at1 B) w (w.setCell ⟨B, 6, none⟩ (.bool true)) := Fb.set (by exact rfl) _
 have hF : Fb (reF B mb qv bv) w (w.setCell ⟨B, 6, none⟩ (.bool true)) := hb.mono fun k hk => .inl hk
 refine ⟨h.re hF ⟨h.ok.set, h.ok.inc, h.ok.one, h.ok.few, h.ok.ok⟩ h.bsl h.qsl h.L h.rb h.rq rfl (Nat.le_refl _) ?_ ?_ ?_ ?_ h.qb (fun a ha => ⟨a, ha, by cases a; rfl⟩), hb.mono fun k hk => .inl hk⟩
 ·exact row_set (k := 6) (u := .bool true) h.var
 ·exact h.map.same (hb.block mb h.map.lt fun e => h.Bmb (Eq.symm e))
 ·exact own_blk h.qrow fun b e => hb.block b (World.ownsRow.lt h.qrow b e).2 fun e2 => h.Bq (by rw [e, show b = B from e2])
 ·exact own_blk h.brow fun b e => hb.block b (World.ownsRow.lt h.brow b e).2 fun e2 => h.Bb (by rw [e, show b = B from e2])
theorem arr_10 {m : Ms} (hk : m.kind = 10) : arrM S m = [poM m.n S.inc S.L.length] ∧ arrS S m = S := by
 unfold arrM arrS
 simp [hk]
theorem arr_7 {m : Ms} (hk : m.kind = 7) : arrM S m = [] ∧ arrS S m = if m.inc = S.inc then { S with L := dropL S.L m.att } else S := by
 unfold arrM arrS dropL
 by_cases e : m.inc = S.inc <;> simp [hk, e]
theorem arr_12 {m : Ms} (hk : m.kind = 12) : arrM S m = [] ∧ arrS S m = if m.inc = S.inc then { S with dr := true } else S := by
 unfold arrM arrS
 by_cases e : m.inc = S.inc <;> simp [hk, e]
theorem arr_no {m : Ms} (h10 : m.kind ≠ 10) (h6 : m.kind ≠ 6) (h7 : m.kind ≠ 7) (h12 : m.kind ≠ 12) : arrM S m = [] ∧ arrS S m = S := by
 unfold arrM arrS
 simp [h10, h6, h7, h12]
set_option maxHeartbeats 4000000 in
theorem earr_any (h : EnI w B mb pm pc qv bv nd S bs qs Fc It) (m : Ms) (hj : JbIn w m.job) (hm : MsOk m) :
  Calls Tryz.prog 18 #[.pointer (some ⟨B, 0, none⟩), .agg (MsV m)] w fun e w' => ArG w B mb pm pc (arrS S m) (enF B mb qv bv nd S Fc) It (arrM S m) e w' := by
 obtain ⟨wA, hwA⟩ : ∃ wA, wA = w.alloc (.cells (MsV m) 55) := ⟨_, rfl⟩
 have hbA : Below w.heap.size w wA := by rw [hwA]; exact (Below.refl _ _).alloc (Nat.le_refl _) _
 have hA : wA.heap[w.heap.size]? = some (.cells (MsV m) 55 (0, 0)) := by rw [hwA]; exact heap_alloc_new w _
 have HX : Hid (∀ W : World, Below wA.heap.size wA W → Below w.heap.size w W) := fun W hb => hbA.trans (hb.mono hbA.size)
 have HM := hid fun (W : World) (hb : Below wA.heap.size wA W) => block_bel hA hb
 have hIA := h.below hbA
 have HI := hid fun (W : World) (hb : Below wA.heap.size wA W) => hIA.below hb
 have HSt := hid fun (hk : m.kind = 6) => (estart_any hIA m (Reads.below hj hbA) hm hk).mono fun e w' hA => ArG.up h hbA hA
 have HNil : Hid (∀ (W : World), Below wA.heap.size wA W → arrM S m = [] → arrS S m = S → ArG w B mb pm pc (arrS S m) (enF B mb qv bv nd S Fc) It (arrM S m) (.returned (.slice none 0 0)) W) := fun W hb e1 e2 => by rw [e1, e2]; exact ArG.nil h (HX.out W hb)
 have HOne : Hid (∀ (W : World) (g : Mg), g.li = [] → Below wA.heap.size wA W → arrM S m = [g] → arrS S m = S → ArG w B mb pm pc (arrS S m) (enF B mb qv bv nd S Fc) It (arrM S m) (.returned (.slice (some ⟨W.heap.size, 0, none⟩) 1 1)) (W.alloc (.cells (MgC g none 0 0) 55))) := fun W g hg hb e1 e2 => by rw [e1, e2]; exact ArG.one h (HX.out W hb) hg
 have HTurn : Hid (∀ (W W' : World) (S' : Rs) (qv' bv' : Value) (bs' qs' : List At), Below wA.heap.size wA W → EnI W' B mb pm pc qv' bv' nd S' bs' qs' Fc It → qv'.ownBlock = qv.ownBlock → bv'.ownBlock = bv.ownBlock → (∀ a ∈ S'.L, a ∈ S.L) → Fb (enF B mb qv bv nd S Fc) W W' → arrM S m = [] → arrS S m = S' → ArG w B mb pm pc (arrS S m) (enF B mb qv bv nd S Fc) It (arrM S m) (.returned (.slice none 0 0)) W') := fun W W' S' qv' bv' bs' qs' hb h' e1 e2 e3 hF e4 e5 => by
  rw [e4, e5]
  refine ⟨_, [], qv', bv', nd, bs', qs', Fc, It, rfl, h', MRow.nil _ _ _, fun k hk => .inl ?_, fun k hk => .inl hk, (Fb.of (HX.out W hb)).trans hF fun k hk => .inl hk⟩
  rcases hk with hk | hk | hk | hk | ⟨a, ha, hk⟩ | hk
  ·exact .inl hk
  ·exact .inr (.inl hk)
  ·exact .inr (.inr (.inl (by rw [← e1]; exact hk)))
  ·exact .inr (.inr (.inr (.inl (by rw [← e2]; exact hk))))
  ·exact .inr (.inr (.inr (.inr (.inl ⟨a, e3 a ha, hk⟩))))
  ·exact .inr (.inr (.inr (.inr (.inr hk))))
 obtain ⟨x0, x1, x2, x3, x4, x5, x6, x7, x8, x9, x10, x11⟩ := cells_12 hA
 obtain ⟨mx, hmx⟩ : ∃ mx, w.heap.size = mx := ⟨_, rfl⟩
 rw [hmx] at x0 x1 x2 x3 x4 x5 x6 x7 x8 x9 x10 x11 HM
 have hatt := hm.att
 have hMd := emade_yes hIA
 have HLd := hid fun (W : World) (hb : Below wA.heap.size wA W) => eload_any (hIA.below hb)
 have HLg := hid fun (W : World) (hb : Below wA.heap.size wA W) => eletgo_any (hIA.below hb) m.att hatt
 have HDr := hid fun (W : World) (hb : Below wA.heap.size wA W) => (hIA.below hb).drain
 have H10 := hid fun (hk : m.kind = 10) => arr_10 (S := S) hk
 have H7 := hid fun (hk : m.kind = 7) => arr_7 (S := S) hk
 have H12 := hid fun (hk : m.kind = 12) => arr_12 (S := S) hk
 have HNo := hid fun (h10 : m.kind ≠ 10) (h6 : m.kind ≠ 6) (h7 : m.kind ≠ 7) (h12 : m.kind ≠ 12) => arr_no (S := S) h10 h6 h7 h12
 have HLen : Hid ((S.L.length : Int) ≤ 1000000) := by have := h.ok.few; have := h.bnd; unfold Hid; omega
 generalize arrM S m = am at *
 generalize arrS S m = aS at *
 clear h hIA hbA hA hj hm
 obtain ⟨kd, st, se, ate, ic, nn, ct, wh, ⟨sd, ap, lp, cp, pr, mo⟩, la, ll, lc, li⟩ := m
 unfold MsV at hwA HM HSt
 simp only at *
 go_enter Tryz.func18, Tryz.ntmps18
 unfold MsV
 simp only
 go_wp2_with fail
 rw [← hwA]
 refine hMd.mono ?_
 rintro e w' ⟨rfl, rfl⟩
 clear hMd hwA
 generalize hsi : S.inc = si at *
 have HCe : Hid (∀ W : World, Below wA.heap.size wA W → W.cell? ⟨mx, 5, none⟩ = some (.int .u64 nn) ∧ W.cell? ⟨B, 5, none⟩ = some (.int .u64 si)) := fun W hb => by
  obtain ⟨x0, x1, x2, x3, x4, x5, x6, x7, x8, x9, x10, x11⟩ := cells_12 (HM.out W hb)
  have := (HI.out W hb).cells.2.2.2.2.2.1
  rw [hsi] at this
  exact ⟨x5, this⟩
 have c5 := (HCe.out wA (Below.refl _ _)).2
 have f6 : ∀ q, (wA.drewN q).frozen? ⟨B, 6, none⟩ = false := fun q => (HI.out _ (bdrew wA q)).frozen 6
 have c6 : ∀ q, (wA.drewN q).cell? ⟨B, 6, none⟩ = some (.bool S.dr) := fun q => (HI.out _ (bdrew wA q)).cells.2.2.2.2.2.2.1
 clear hsi
 by_cases h10 : kd = 10
 ·subst h10
  obtain ⟨e1, e2⟩ := H10.out rfl
  have HR := hid fun (W : World) (hb : Below wA.heap.size wA W) => HOne.out W (poM nn si S.L.length) rfl hb e1 e2
  have hu : IntKind.u64.wrap (S.L.length : Int) = (S.L.length : Int) := by rw [IntKind.wrap_u64]; have := HLen.out; omega
  unfold MgC at HR
  simp only [poM] at HR
  clear HNil HOne HTurn HSt HLg HDr H10 H7 H12 HNo HLen HM HI HX e1 e2 x1 x2 x3 x4 x6 x7 x8 x9 x10 x11 f6 c6
  generalize S.L.length = nL at *
  go_wp2_with fail
  clear x0 x5 c5
  have HV : Hid (Below wA.heap.size wA wA.drew) := (Below.refl _ _).drew
  have HAl : Hid (∀ o, Below wA.heap.size wA (wA.alloc o).drew) := fun o => ((Below.refl _ _).alloc (Nat.le_refl _) o).drew
  go_region_held3 (fun W : World => W.cell? ⟨mx, 5, none⟩ = some (.int .u64 nn) ∧ W.cell? ⟨B, 5, none⟩ = some (.int .u64 si)) (first | (with_reducible exact HCe.out _ (Below.refl _ _)) | (with_reducible exact HCe.out _ HV.out) | (with_reducible exact HCe.out _ (HAl.out _)))
   (first
    | (go_at_call 22; (with_reducible refine (HLd.out _ HV.out).mono ?_); rintro e w2 ⟨rfl, rfl⟩)
    | fail)
  all_goals
   go_wp2_with fail
   go_ret
   exact HR.out _ HV.out
 ·clear H10 HOne HLd HLen HCe
  by_cases h6 : kd = 6
  ·subst h6
   have hS := HSt.out rfl
   clear HNil HTurn HSt HLg HDr H7 H12 HNo HM HI HX f6 c6
   go_wp2_with fail
   refine hS.mono ?_
   intro e w' hA
   have HA := hid hA
   obtain ⟨v, _, _, _, _, _, _, _, _, rfl, _⟩ := hA
   clear hS
   go_wp2
   go_ret
   exact HA.out
  ·clear HSt
   by_cases h7 : kd = 7
   ·subst h7
    obtain ⟨e1, e2⟩ := H7.out rfl
    by_cases hinc : ic = si
    ·subst hinc
     rw [if_pos rfl] at e2
     have HE1 := hid e1
     have HE2 := hid e2
     have HQ := hid fun (q : Nat) => HM.out _ (bdrew wA q)
     clear HNil HDr H7 H12 HNo HI HX f6 c6 e1 e2
     go_wp2_with fail
     go_quiet (fail)
     obtain ⟨w1, hw1⟩ : ∃ w1, w1 = wA.drewN nq := ⟨_, rfl⟩
     have HB1 : Hid (Below wA.heap.size wA w1) := by unfold Hid; rw [hw1]; exact bdrew wA _
     rw [← hw1]
     clear hw1 HQ x0 x1 x2 x3 x4 x5 x6 x7 x8 x9 x10 x11 c5
     obtain ⟨x0, x1, x2, x3, x4, x5, x6, x7, x8, x9, x10, x11⟩ := cells_12 (HM.out w1 HB1.out)
     have hLg := HLg.out w1 HB1.out
     clear HLg HM
     go_wp2_with fail
     refine hLg.mono ?_
     rintro e w2 ⟨rfl, qv', bv', h2, o1, o2, hF⟩
     have HR := hid (HTurn.out w1 w2 _ qv' bv' _ _ HB1.out h2 o1 o2 (fun a ha => (dropL_mem ha).1) (hF.mono fun k hk => reF_en hk) HE1.out HE2.out)
     clear hLg HTurn HB1 h2 hF HE1 HE2 x0 x1 x2 x3 x4 x5 x6 x7 x8 x9 x10 x11
     go_wp2
     go_ret
     exact HR.out
    ·rw [if_neg hinc] at e2
     have hne : (ic == si) = false := by simpa using hinc
     have hd : decide (ic = si) = false := decide_eq_false hinc
     have HR := hid fun (q : Nat) => HNil.out _ (bdrew wA q) e1 e2
     clear HNil HTurn HLg HDr H7 H12 HNo HM HI HX f6 c6 e1 e2
     go_wp2_with fail
     go_quiet (fail)
     go_wp2
     go_ret
     exact HR.out _
   ·clear H7 HLg
    by_cases h12 : kd = 12
    ·subst h12
     obtain ⟨e1, e2⟩ := H12.out rfl
     by_cases hinc : ic = si
     ·subst hinc
      rw [if_pos rfl] at e2
      have HR := hid fun (q : Nat) => HTurn.out (wA.drewN q) _ _ qv bv _ _ (bdrew wA q) (HDr.out _ (bdrew wA q)).1 rfl rfl (fun a ha => ha) (HDr.out _ (bdrew wA q)).2 e1 e2
      clear HNil HTurn HDr H12 HNo HM HI HX e1 e2
      go_wp2_with fail
      go_quiet (fail)
      have g1 := f6 nq
      have g2 := c6 nq
      have HR1 := hid (HR.out nq)
      clear f6 c6 HR x0 x1 x2 x3 x4 x5 x6 x7 x8 x9 x10 x11 c5
      generalize wA.drewN nq = w1 at *
      go_wp2
      go_ret
      exact HR1.out
     ·rw [if_neg hinc] at e2
      have hne : (ic == si) = false := by simpa using hinc
      have hd : decide (ic = si) = false := decide_eq_false hinc
      have HR := hid fun (q : Nat) => HNil.out _ (bdrew wA q) e1 e2
      clear HNil HTurn HDr H12 HNo HM HI HX f6 c6 e1 e2
      go_wp2_with fail
      go_quiet (fail)
      go_wp2
      go_ret
      exact HR.out _
    ·obtain ⟨e1, e2⟩ := HNo.out h10 h6 h7 h12
     have HR := hid (HNil.out _ (Below.refl _ _) e1 e2)
     clear HNil HTurn HDr H12 HNo HM HI HX f6 c6 e1 e2
     go_wp2
     go_ret
     exact HR.out
end
end Go.Proofs.YtjgggialnegddaaGreat
namespace Go.Proofs.YtjgggialnegddaaGreat
open Go.RowKit Go.Maps
theorem MdAt.below15 {W W' : World} {p : Option Addr} {c : Cf} (h : MdAt W p c) (hb : Below W.heap.size W W') : MdAt W' p c := by
 rcases h with ⟨h1, h2⟩ | ⟨g, e, hg⟩
 ·exact .inl ⟨h1, h2⟩
 ·exact .inr ⟨g, e, block_below hg hb⟩
theorem cells_11 {W : World} {g : Nat} {v0 v1 v2 v3 v4 v5 v6 v7 v8 v9 v10 : Value} {T : TypeId} (h : W.heap[g]? = some (.cells #[v0, v1, v2, v3, v4, v5, v6, v7, v8, v9, v10] T (0, 0))) : W.cell? ⟨g, 0, none⟩ = some v0 ∧ W.cell? ⟨g, 1, none⟩ = some v1 ∧ W.cell? ⟨g, 2, none⟩ = some v2 ∧ W.cell? ⟨g, 3, none⟩ = some v3 ∧ W.cell? ⟨g, 4, none⟩ = some v4 ∧ W.cell? ⟨g, 5, none⟩ = some v5 ∧ W.cell? ⟨g, 6, none⟩ = some v6 ∧ W.cell? ⟨g, 7, none⟩ = some v7 ∧ W.cell? ⟨g, 8, none⟩ = some v8 ∧ W.cell? ⟨g, 9, none⟩ = some v9 ∧ W.cell? ⟨g, 10, none⟩ = some v10 := by
 refine ⟨?_, ?_, ?_, ?_, ?_, ?_, ?_, ?_, ?_, ?_, ?_⟩ <;> (rw [cell_of_row _ _ _ _ _ _ h]; rfl)
theorem encache_yes (p : Option Addr) (s : Sg) (w : World) (hp : MdAt w p s.c) (hc : mayB s.c = true) (h : s.pg = 0 ∨ (1 ≤ s.pg ∧ s.pg ≤ 256 ∧ 1 ≤ s.sz ∧ s.sz ≤ 16)) :
  Calls Tryz.prog 30 #[.pointer p, .agg (SgV s)] w fun e w' => ∃ q F, e = .returned (.tuple #[.pointer q, .int .i64 0]) ∧ CaAt w' q s 0 F (fun _ => False) ∧ (∀ k, F k → w.heap.size ≤ k) ∧ Below w.heap.size w w' := by
 obtain ⟨wA, hwA⟩ : ∃ wA, wA = w.alloc (.cells (SgV s) 32) := ⟨_, rfl⟩
 have hbA : Below w.heap.size w wA := by rw [hwA]; exact (Below.refl _ _).alloc (Nat.le_refl _) _
 have hA : wA.heap[w.heap.size]? = some (.cells (SgV s) 32 (0, 0)) := by rw [hwA]; exact heap_alloc_new w _
 have HX := hid hbA
 by_cases h0 : s.pg = 0
 ·have HR : Hid (∃ q F, Ending.returned (.tuple #[.pointer none, .int .i64 0]) = .returned (.tuple #[.pointer q, .int .i64 0]) ∧ CaAt wA q s 0 F (fun _ => False) ∧ (∀ k, F k → w.heap.size ≤ k) ∧ Below w.heap.size w wA) := ⟨none, fun _ => False, rfl, .inl ⟨h0, rfl, fun k hk => hk⟩, (fun k hk => hk.elim), hbA⟩
  obtain ⟨c, q, b, pg, sz, ch⟩ := s
  unfold SgV at hA hwA
  obtain ⟨x0, x1, x2, x3, x4, x5, x6, x7, x8, x9, x10⟩ := cells_11 hA
  simp only at *
  subst h0
  clear hA h hp hc hbA
  go_enter Tryz.func30, Tryz.ntmps30
  unfold SgV
  simp only
  rw [hwA] at x0 x1 x2 x3 x4 x5 x6 x7 x8 x9 x10
  go_wp2
  go_ret2
  rw [← hwA]
  exact HR.out
 ·have h1 : 1 ≤ s.pg ∧ s.pg ≤ 256 ∧ 1 ≤ s.sz ∧ s.sz ≤ 16 := h.resolve_left h0
  obtain ⟨n, hn⟩ : ∃ n : Nat, s.pg = n := ⟨s.pg.toNat, by omega⟩
  obtain ⟨m, hm⟩ : ∃ m : Nat, s.sz = m := ⟨s.sz.toNat, by omega⟩
  have hN := knew_yes p s.c n m wA (hp.below15 hbA) hc (by omega) (by omega)
  have HR : Hid (∀ (g : Nat) (F : Nat → Prop) (w' : World), KvAt w' (some ⟨g, 0, none⟩) s.c n m 0 [] F → (∀ k, F k → wA.heap.size ≤ k) → Below wA.heap.size wA w' → ∃ q F, Ending.returned (.tuple #[.pointer (some ⟨g, 0, none⟩), .int .i64 0]) = .returned (.tuple #[.pointer q, .int .i64 0]) ∧ CaAt w' q s 0 F (fun _ => False) ∧ (∀ k, F k → w.heap.size ≤ k) ∧ Below w.heap.size w w') := fun g F w' hk hF hb => by
   obtain ⟨B, bb, r, pp, L, e1, e2, e3, e4, e5⟩ := hk.rest
   refine ⟨_, F, rfl, .inr ⟨n, m, 0, [], hn, by simp, hk.ok, B, bb, r, pp, L, e1, e2, e3, e4, e5, (fun x hx => by cases hx)⟩, fun k hk' => Nat.le_trans hbA.size (hF k hk'), hbA.trans (hb.mono hbA.size)⟩
  obtain ⟨c, q, b, pg, sz, ch⟩ := s
  unfold SgV at hA hwA
  obtain ⟨x0, x1, x2, x3, x4, x5, x6, x7, x8, x9, x10⟩ := cells_11 hA
  simp only at *
  subst hn hm
  clear hA h hp hc hbA h1
  go_enter Tryz.func30, Tryz.ntmps30
  unfold SgV
  simp only
  rw [hwA] at x0 x1 x2 x3 x4 x5 x6 x7 x8 x9 x10
  go_wp2_with fail
  rw [← hwA]
  refine hN.mono ?_
  rintro e w1 ⟨g, F, rfl, hk, hF, hb⟩
  have HZ := hid (HR.out g F w1 hk hF hb)
  clear hN hb hk hF HR
  go_wp2
  go_ret2
  exact HZ.out
theorem en_new {w : World} {s : Sg} (hs : setB s = true) {g : Nat} (hg : w.heap[g]? = some (.cells (CfV s.c) 100 (0, 0))) {pc : Option Addr} {F : Nat → Prop} (hc : CaAt w pc s 0 F (fun _ => False)) {w1 w2 : World} (h1 : w1 = w.alloc (.map #[] 0)) (h2 : w2 = w1.alloc (.cells (RpV (some ⟨g, 0, none⟩) pc ⟨s, 1, false, [], 0⟩ w.heap.size (.slice none 0 0) (.slice none 0 0)) 73)) :
  EnI w2 w1.heap.size w.heap.size (some ⟨g, 0, none⟩) pc (.slice none 0 0) (.slice none 0 0) (fun _ => 0) ⟨s, 1, false, [], 0⟩ [] [] F (fun _ => False) ∧ (∀ k, enF w1.heap.size w.heap.size (.slice none 0 0) (.slice none 0 0) (fun _ => 0) ⟨s, 1, false, [], 0⟩ F k → F k ∨ w.heap.size ≤ k) ∧ Below w.heap.size w w2 := by
 have hb1 : Below w.heap.size w w1 := by rw [h1]; exact (Below.refl _ _).alloc (Nat.le_refl _) _
 have hb2 : Below w1.heap.size w1 w2 := by rw [h2]; exact (Below.refl _ _).alloc (Nat.le_refl _) _
 have hb := hb1.trans (hb2.mono hb1.size)
 have hs2 := hs
 unfold setB btw at hs2
 simp only [Bool.and_eq_true, decide_eq_true_eq] at hs2
 obtain ⟨_, ⟨q1, _⟩, ⟨b1, _⟩, _⟩ := hs2
 refine ⟨⟨⟨hs, ⟨by simp, by simp⟩, List.nodup_nil, ?_, (fun a ha => by cases ha)⟩, ?_, ?_, rfl, (fun a ha => by cases ha), (fun a ha => by cases ha), ?_, ⟨g, rfl, block_below hg hb⟩, ?_, ?_, ?_, World.ownsRow_nil _ _ _ _, World.ownsRow_nil _ _ _ _, (fun k e => by cases e), (fun a ha => by cases ha), (fun k hk => hk.elim)⟩, ?_, hb⟩
 ·simp only [List.length_nil]; omega
 ·simp only [List.length_nil]; omega
 ·simp only [List.length_nil]; omega
 ·rw [h2]; exact heap_alloc_new w1 _
 ·exact hc.keep hb.size (fun k hk => hb.block k (hc.old k hk)) (fun k hk => hk.elim) (KpL.of hb)
 ·have hm : AmAt w1 w.heap.size 0 (fun _ => none) := by rw [h1]; exact AmAt.new w
  refine (hm.below hb2).ext fun x _ => ?_
  simp [mapF, hasB]
 ·intro hk; have := hc.old _ hk; omega
 ·intro k hk
  rcases hk with hk | hk | hk | hk | ⟨a, ha, _⟩ | hk
  ·have := hb1.size; exact .inr (by omega)
  ·exact .inr (by omega)
  ·cases hk
  ·cases hk
  ·cases ha
  ·exact .inl hk
end Go.Proofs.YtjgggialnegddaaGreat
namespace Go.Proofs.YtjgggialnegddaaGreat
open Go.RowKit Go.Maps
theorem tells_app {c : Cf} {ch : Nat} {inc : Int} : ∀ {L1 L1' : List At} {m1 : List Mg}, TellsR c ch inc L1 m1 L1' → ∀ {L2 L2' : List At} {m2 : List Mg}, TellsR c ch inc L2 m2 L2' → TellsR c ch inc (L1 ++ L2) (m1 ++ m2) (L1' ++ L2') := by
 intro L1
 induction L1 with
 | nil =>
  rintro L1' m1 ⟨rfl, rfl⟩ L2 L2' m2 h
  exact h
 | cons a L1 ih =>
  intro L1' m1 h L2 L2' m2 h2
  rcases h with ⟨hr, L3, rfl, t⟩ | ⟨hr, ma, mb, o, L3, rfl, rfl, t1, t2⟩
  ·exact .inl ⟨hr, L3 ++ L2', rfl, ih t h2⟩
  ·exact .inr ⟨hr, ma, mb ++ m2, o, L3 ++ L2', by rw [List.append_assoc], by rw [List.append_assoc], t1, ih t2 h2⟩
theorem tells_one {c : Cf} {ch : Nat} {inc : Int} {a : At} {ms : List Mg} {o : Option At} (hr : a.run = true) (h : TellR c ch inc a ms o) : TellsR c ch inc [a] ms o.toList :=
 .inr ⟨hr, ms, [], o, [], by rw [List.append_nil], by rw [List.append_nil], h, rfl, rfl⟩
theorem tells_wait {c : Cf} {ch : Nat} {inc : Int} : ∀ {L : List At}, (∀ a ∈ L, a.run = false) → TellsR c ch inc L [] L
 | [], _ => ⟨rfl, rfl⟩
 | a :: L, h => .inl ⟨h a (List.mem_cons_self ..), L, rfl, tells_wait fun x hx => h x (List.mem_cons_of_mem _ hx)⟩
theorem tell_len {c : Cf} {ch : Nat} {inc : Int} {a : At} {b : Bool} : (msA c ch inc a b).length ≤ 2 := by
 unfold msA
 split <;> split <;> simp
theorem wp_app_eq {P : Program} (w : World) {ops : Array Oper} {rest : List Oper} {o : Oper} {a : Act} {Q : Exit → Act → World → Prop} (hgd : o.guard = none) (s x : Operand) (t : TypeId)
  (ho : o.op = .call { callee := .builtin .append, args := #[s, x], argTypes := #[t, t] }) (v1 v2 v' : Value) (w' : World) (hs : a.eval s = v1) (hx : a.eval x = v2) (hr : (Builtin.append_ #[t, t] o.type #[v1, v2]).run P w = .ok v' w') (h : wpList P ops Q rest (a.put o.dst v') w') : wpList P ops Q (o :: rest) a w := by
 refine wpList_plain hgd fun K hK => ?_
 unfold Oper.wp execOp
 simp only [ho, resolve, invoke, builtin, Sem.run_bind, Sem.run_pure, Result.andThen_ok, List.map_toArray, List.map_cons, List.map_nil, hs, hx, hr]
 exact hK _ _ h
section
variable {w : World} {B mb : Nat} {pm pc : Option Addr} {qv bv : Value} {nd : Int → Nat} {S : Rs} {bs qs : List At} {F It Fc : Nat → Prop}
def StpI (w : World) (B mb : Nat) (pm pc : Option Addr) (nd : Int → Nat) (S : Rs) (bs qs : List At) (F It : Nat → Prop) (ac : Option Addr) (cc : Nat) (i : Nat) (v : Value) (ms : List Mg) (W : World) : Prop :=
 ∃ done ds qv bv Fc1 It1, TellsR S.s.c S.s.ch.toNat S.inc (bs.take i) ms done ∧ EnI W B mb pm pc qv bv nd { S with L := (done ++ bs.drop i) ++ qs, tk := S.tk + 2 * i } (done ++ bs.drop i) qs Fc1 It1 ∧ MRow w.heap.size W v ms ds It1 ∧ Reads .u64 W ac bs.length cc (bs.map (·.id)) ∧ (∀ p, ac = some p → ¬ enF B mb qv bv nd { S with L := (done ++ bs.drop i) ++ qs, tk := S.tk + 2 * i } Fc1 p.block ∧ ∃ cur, W.heap[p.block]? = some (.cells cur 22 (0, 0))) ∧ (∀ k, enF B mb qv bv nd { S with L := (done ++ bs.drop i) ++ qs, tk := S.tk + 2 * i } Fc1 k → F k ∨ w.heap.size ≤ k) ∧ (∀ k, It1 k → It k ∨ w.heap.size ≤ k) ∧ Fb F w W ∧ ms.length ≤ 2 * i
theorem Reads.lt {k : IntKind} {W : World} {a : Option Addr} {n c : Nat} {zs : List Int} (h : Reads k W a n c zs) (hn : 0 < n) {p : Addr} (hp : a = some p) : p.block < W.heap.size := by
 obtain ⟨b, off, e, hc⟩ := h.cell 0 hn
 rw [hp] at e
 cases e
 exact World.block_lt_of_cell? _ _ hc
theorem StpI.next {ac : Option Addr} {cc i : Nat} {v : Value} {ms : List Mg} {W : World} (h : StpI w B mb pm pc nd S bs qs F It ac cc i v ms W) (hi : i < bs.length) (hrun : ∀ a ∈ bs, a.run = true) (hb16 : bs.length ≤ 16) (ht : S.tk ≤ 99900) (hid : isU bs[i].id) :
  (∃ q, W.cell? ⟨B, 7, none⟩ = some (.map (some mb)) ∧ (Instr.lookup 71 (.map (some mb)) (.int .u64 bs[i].id) false).run Tryz.prog W = .ok (.pointer q) W ∧
  Calls Tryz.prog 39 #[.pointer (some ⟨B, 0, none⟩), .pointer q] W fun e w' => ∃ a2 n2 c2 v2 w2 ms2, e = .returned (.slice a2 n2 c2) ∧ (Builtin.append_ #[49, 49] 49 #[v, .slice a2 n2 c2]).run Tryz.prog w' = .ok v2 w2 ∧ StpI w B mb pm pc nd S bs qs F It ac cc (i + 1) v2 ms2 w2) := by
 obtain ⟨done, ds, qv, bv, Fc1, It1, h1, h2, h3, h4, h5, h6, h7, h8, h9⟩ := h
 have hdr : bs.drop i = bs[i] :: bs.drop (i + 1) := List.drop_eq_getElem_cons hi
 have htk : bs.take (i + 1) = bs.take i ++ [bs[i]] := List.take_succ_eq_append_getElem hi
 obtain ⟨a, ha⟩ : ∃ a, bs[i] = a := ⟨_, rfl⟩
 rw [ha] at hdr htk hid ⊢
 have harun : a.run = true := by rw [← ha]; exact hrun _ (List.getElem_mem _)
 have haL : a ∈ (done ++ bs.drop i) ++ qs := by rw [hdr]; simp
 have hlk := h2.map.look hid
 have hmf : mapF ((done ++ bs.drop i) ++ qs) nd a.id = some (nd a.id) := by
  unfold mapF
  rw [if_pos (hasB_iff.2 (List.mem_map.2 ⟨a, haL, rfl⟩))]
 refine ⟨some ⟨nd a.id, 0, none⟩, h2.cells.2.2.2.2.2.2.2.1, ?_, ?_⟩
 ·have := hlk
  rw [hmf] at this
  exact this
 ·have h2' := h2
  simp only [hdr] at h2'
  refine (ego_any h2' (by show S.tk + 2 * i ≤ 99980; omega)).mono ?_
  rintro e w' ⟨v1, b, rfl, hT, ds1, qv1, bv1, Fc2, It2, g1, g2, g3, g4, g5⟩
  obtain ⟨a2, c2, rfl, hM⟩ := g2.mgs
  have hFe : enF B mb qv bv nd { S with L := (done ++ a :: bs.drop (i + 1)) ++ qs, tk := S.tk + 2 * i } Fc1 = enF B mb qv bv nd { S with L := (done ++ bs.drop i) ++ qs, tk := S.tk + 2 * i } Fc1 := by rw [hdr]
  rw [hFe] at g3 g5
  have hII := h2.its g5 fun k hk => .inl hk
  have hIt : ∀ k, (It1 k ∨ It2 k) → IntB w' k ∧ ¬ Fc2 k := fun k hk => by
   rcases hk with hk | hk
   ·refine ⟨(h2.itI k hk).1.same (hII k hk), fun hf => ?_⟩
    rcases g3 k (.inr (.inr (.inr (.inr (.inr hf))))) with h' | h'
    ·exact h2.itF hk h'
    ·have := h2.oldI k hk; omega
   ·exact g1.itI k hk
  have hsz := h8.size
  have g1' := g1.monoI (It' := fun k => It1 k ∨ It2 k) (fun k hk => .inr hk) hIt (Nat.le_refl _)
  have hold : MRow w.heap.size w' v ms ds (fun k => It1 k ∨ It2 k) := h3.same (fun b e => by
   obtain ⟨_, cur, hc⟩ := own_kind h3.own e
   exact g5.block b (lt_of_block hc) fun hf => h2.msgF hc hf) (fun k hk => ⟨hII k hk, .inl hk⟩)
  have hnew : ∀ j (hj : j < (msA S.s.c S.s.ch.toNat S.inc a b).length) (hd : j < ds1.length), Reads .i64 w' ds1[j].1 ds1[j].2.1 ds1[j].2.2 (msA S.s.c S.s.ch.toNat S.inc a b)[j].li ∧ ∀ p, ds1[j].1 = some p → w.heap.size ≤ p.block ∧ (It1 p.block ∨ It2 p.block) := fun j hj hd => by
   obtain ⟨k1, k2⟩ := g2.li j hj hd
   exact ⟨k1, fun p hp => ⟨Nat.le_trans hsz (k2 p hp).1, .inr (k2 p hp).2⟩⟩
  have hle := tell_len (c := S.s.c) (ch := S.s.ch.toNat) (inc := S.inc) (a := a) (b := b)
  obtain ⟨v2, w2, e2, ho2, hg2⟩ := run_mapp w' w.heap.size v ms ds hold.own hold.len a2 _ c2 (msA S.s.c S.s.ch.toNat S.inc a b) ds1 rfl g2.len (fun e => by
   have := hM.bare e
   exact this) (fun ad e j u hu => by
   subst e
   obtain ⟨g, cap, e3⟩ : ∃ g cap, (Value.slice (some ad) (msA S.s.c S.s.ch.toNat S.inc a b).length c2) = .slice (some ⟨g, 0, none⟩) (msA S.s.c S.s.ch.toNat S.inc a b).length cap := by
    rcases id g2.own.2 with ⟨e4, _⟩ | ⟨g, cap, cur, e4, _⟩
    ·cases e4
    ·exact ⟨g, cap, e4⟩
   cases e3
   exact World.ownsRow.cells g2.own (g := g) rfl j u hu) (by omega) (Nat.le_trans hsz g5.size) 49
  have hrow : MRow w.heap.size w2 v2 (ms ++ msA S.s.c S.s.ch.toNat S.inc a b) (ds ++ ds1) (fun k => It1 k ∨ It2 k) := hold.app ho2 hg2 g2.len (fun k hk => (hIt k hk).1) hnew
  refine ⟨a2, _, c2, v2, w2, ms ++ msA S.s.c S.s.ch.toNat S.inc a b, rfl, e2, ?_⟩
  have hvk : ∀ k, v.ownBlock = some k → w.heap.size ≤ k ∧ ∃ cur, w'.heap[k]? = some (.cells cur 55 (0, 0)) := fun k e => own_kind hold.own e
  have hFb : Fb (fun k => v.ownBlock = some k) w' w2 := ⟨hg2.os, hg2.tape, hg2.output, hg2.size, fun k hk hn => hg2.block k hk fun e => hn e.symm⟩
  have hk2 : KpL w' w2 := KpL.fb hFb fun k cur t fz hk hc ht => by
   obtain ⟨_, cur', hc'⟩ := hvk k hk
   rw [hc] at hc'
   simp at hc'
   obtain ⟨_, rfl, _⟩ := hc'
   revert ht
   decide
  have g1f := g1'.keep hg2.size (fun k hk => hFb.block k (g1'.old k hk) fun e => by
   obtain ⟨_, cur', hc'⟩ := hvk k e
   exact g1'.msgF hc' hk) (fun k hk => hFb.block k (g1'.oldI k hk) fun e => by
   obtain ⟨_, cur', hc'⟩ := hvk k e
   obtain ⟨⟨cur, fz, hc⟩, _⟩ := hIt k hk
   rw [hc] at hc'
   simp at hc') hk2
  have hLe : done ++ (leA S.s.c S.s.ch.toNat a b).toList ++ bs.drop (i + 1) = (done ++ (leA S.s.c S.s.ch.toNat a b).toList) ++ bs.drop (i + 1) := rfl
  have htk2 : S.tk + 2 * i + 2 = S.tk + 2 * (i + 1) := by omega
  have hacw : ∀ p, ac = some p → w'.heap[p.block]? = W.heap[p.block]? ∧ w2.heap[p.block]? = w'.heap[p.block]? := fun p hp => by
   have hlt := h4.lt (by omega) hp
   refine ⟨g5.block _ hlt (h5 p hp).1, hFb.block _ (Nat.lt_of_lt_of_le hlt g5.size) fun e => ?_⟩
   obtain ⟨_, cur2, hc2⟩ := own_kind h3.own e
   obtain ⟨cur, hc⟩ := (h5 p hp).2
   rw [hc] at hc2
   simp at hc2
  refine ⟨done ++ (leA S.s.c S.s.ch.toNat a b).toList, ds ++ ds1, qv1, bv1, Fc2, _, ?_, ?_, hrow, ?_, ?_, ?_, ?_, ?_, ?_⟩
  ·rw [htk]
   exact tells_app h1 (tells_one harun hT)
  ·have := g1f
   simp only [htk2] at this
   exact this
  ·exact h4.same fun x ⟨p, hp, e⟩ => by rw [← e]; exact (hacw p hp).2.trans (hacw p hp).1
  ·intro p hp
   refine ⟨fun hf => ?_, by rw [(hacw p hp).2, (hacw p hp).1]; exact (h5 p hp).2⟩
   have hf' : enF B mb qv1 bv1 nd { S with L := (done ++ (leA S.s.c S.s.ch.toNat a b).toList ++ bs.drop (i + 1)) ++ qs, tk := S.tk + 2 * i + 2 } Fc2 p.block := hf
   rcases g3 _ hf' with h' | h'
   ·exact (h5 p hp).1 h'
   ·have := h4.lt (by omega) hp; omega
  ·intro k hf
   have hf' : enF B mb qv1 bv1 nd { S with L := (done ++ (leA S.s.c S.s.ch.toNat a b).toList ++ bs.drop (i + 1)) ++ qs, tk := S.tk + 2 * i + 2 } Fc2 k := hf
   rcases g3 _ hf' with h' | h'
   ·exact h6 k h'
   ·exact .inr (Nat.le_trans hsz h')
  ·intro k hk
   rcases hk with h' | h'
   ·exact h7 k h'
   ·rcases g4 k h' with h'' | h''
    ·exact h7 k h''
    ·exact .inr (Nat.le_trans hsz h'')
  ·exact (h8.trans g5 h6).trans hFb fun k hk => .inr (hvk k hk).1
  ·rw [List.length_append]
   omega
def StpO (w : World) (B mb : Nat) (pm pc : Option Addr) (nd : Int → Nat) (S : Rs) (F It : Nat → Prop) (e : Ending) (w' : World) : Prop := ∃ v bs1 qs1 ac cc ms, e = .returned v ∧ runL S.s.b.toNat 0 S.L = bs1 ++ qs1 ∧ (∀ a ∈ qs1, a.run = false) ∧ bs1.length ≤ 16 ∧ StpI w B mb pm pc nd { S with L := runL S.s.b.toNat 0 S.L } bs1 qs1 F It ac cc bs1.length v ms w'
set_option maxHeartbeats 1000000 in
theorem estep_any (h : EnI w B mb pm pc qv bv nd S bs qs Fc It) (ht : S.tk ≤ 99900) :
  Calls Tryz.prog 14 #[.pointer (some ⟨B, 0, none⟩)] w fun e w' => StpO w B mb pm pc nd S (enF B mb qv bv nd S Fc) It e w' := by
 have hM := emade_yes h
 have hFl := efill_any h
 have H := hid h
 clear h
 go_enter Tryz.func14, Tryz.ntmps14
 go_wp2_with fail
 refine hM.mono ?_
 rintro e w' ⟨rfl, rfl⟩
 clear hM
 go_wp2_with fail
 refine hFl.mono ?_
 rintro e w1 ⟨rfl, qv1, bv1, bs1, qs1, h1, hq1, hb1, hF1⟩
 obtain ⟨_, _, _, hb16, _, _⟩ := h1.bnd
 have hbl := h1.bsl
 have hn16 : bs1.length ≤ 16 := by simp only at hbl hb16; omega
 have hCl := uclone_any bv1 (bs1.map (·.id)) w1 h1.brow (by rw [List.length_map]; omega)
 rw [List.length_map] at hCl
 have b9 := h1.cells.2.2.2.2.2.2.2.2.2
 have hsz := hF1.size
 have HF1 : Hid (∀ k, enF B mb qv1 bv1 nd { S with L := runL S.s.b.toNat 0 S.L } Fc k → enF B mb qv bv nd S Fc k ∨ w.heap.size ≤ k) := fun k hk => by
  rcases hk with h' | h' | h' | h' | ⟨x, hx, h'⟩ | h'
  ·exact .inl (.inl h')
  ·exact .inl (.inr (.inl h'))
  ·exact .inl (.inr (.inr (.inl (by rw [← hq1]; exact h'))))
  ·rcases hb1 k h' with h'' | h''
   ·exact .inl (.inr (.inr (.inr (.inl h''))))
   ·exact .inr h''
  ·have hx' : x.id ∈ (runL S.s.b.toNat 0 S.L).map (·.id) := List.mem_map.2 ⟨x, hx, rfl⟩
   rw [runL_ids] at hx'
   obtain ⟨y, hy, e⟩ := List.mem_map.1 hx'
   exact .inl (.inr (.inr (.inr (.inr (.inl ⟨y, hy, by rw [h', ← e]⟩)))))
  ·exact .inl (.inr (.inr (.inr (.inr (.inr h')))))
 have HFb : Hid (Fb (enF B mb qv bv nd S Fc) w w1) := hF1.mono fun k hk => reF_en hk
 have HL1 : Hid (runL S.s.b.toNat 0 S.L = bs1 ++ qs1) := h1.L
 have HRb := hid h1.rb
 have HRq := hid h1.rq
 have HUb := hid h1.ub
 have H1 := hid h1
 clear hFl h1 hq1 hb1 hF1 hbl hb16
 go_wp2_with fail
 refine hCl.mono ?_
 rintro e w2 ⟨ac, cc, rfl, hr2, hn2, hb2⟩
 have r2 := hr2.room
 have m2 := hr2.most
 have HS0 : Hid (StpI w B mb pm pc nd { S with L := runL S.s.b.toNat 0 S.L } bs1 qs1 (enF B mb qv bv nd S Fc) It ac cc 0 (.slice none 0 0) [] w2) := by
  refine ⟨[], [], qv1, bv1, Fc, It, ⟨rfl, rfl⟩, ?_, MRow.nil _ _ _, hr2, fun p hp => ⟨fun hf => ?_, (hn2 p hp).2⟩, fun k hk => HF1.out k ?_, fun k hk => .inl hk, HFb.out.below hb2, Nat.zero_le _⟩
  ·have := H1.out.below hb2
   rw [HL1.out] at this ⊢
   exact this
  ·have hf' : enF B mb qv1 bv1 nd { S with L := runL S.s.b.toNat 0 S.L } Fc p.block := by rw [HL1.out]; exact hf
   have := H1.out.old _ hf'
   have := (hn2 p hp).1
   omega
  ·rw [HL1.out]; exact hk
 have HRd : Hid (∀ W i v ms, StpI w B mb pm pc nd { S with L := runL S.s.b.toNat 0 S.L } bs1 qs1 (enF B mb qv bv nd S Fc) It ac cc i v ms W → ∀ (hi : i < bs1.length), ∃ b off, ac = some ⟨b, off, none⟩ ∧ W.cell? ⟨b, off + i, none⟩ = some (.int .u64 bs1[i].id)) := fun W i v ms ⟨_, _, _, _, _, _, _, _, _, h4, _⟩ hi => by
  obtain ⟨b, off, e, hc⟩ := h4.cell i hi
  refine ⟨b, off, e, ?_⟩
  rw [hc, List.getElem?_map, List.getElem?_eq_getElem hi]
  rfl
 have HNx := hid fun (W : World) (i : Nat) (v : Value) (ms : List Mg) (h : StpI w B mb pm pc nd { S with L := runL S.s.b.toNat 0 S.L } bs1 qs1 (enF B mb qv bv nd S Fc) It ac cc i v ms W) (hi : i < bs1.length) => h.next hi HRb.out hn16 ht (HUb.out _ (List.mem_map.2 ⟨_, List.getElem_mem hi, rfl⟩))
 obtain ⟨N, hN⟩ : ∃ N, bs1.length = N := ⟨_, rfl⟩
 have HN := hid hN
 rw [hN] at r2 hn16 ⊢
 clear hCl hr2 hn2 hb2 HF1 HFb H1 H HUb HRb b9 hN
 go_wp2_with fail
 go_loopw [3, 17] (fun v i W => ∃ (k : Nat) (ms : List Mg), k ≤ N ∧ i = .int .i64 k ∧ Hid (StpI w B mb pm pc nd { S with L := runL S.s.b.toNat 0 S.L } bs1 qs1 (enF B mb qv bv nd S Fc) It ac cc k v ms W)) (fun _ i _ => N - (intOf i).toNat)
 case atStart => exact ⟨0, [], by omega, rfl, HS0⟩
 case round =>
 obtain ⟨k, ms, hk, rfl, HK⟩ := hrel
 rename World => wr
 clear HS0
 by_cases hlt : k < N
 ·have q1 : (k : Int) < (N : Int) := by omega
  have hkb : k < bs1.length := by rw [HN.out]; exact hlt
  obtain ⟨b, off, rfl, hcell⟩ := HRd.out wr k _ ms HK.out hkb
  obtain ⟨q, c7, hlk, hGo⟩ := HNx.out wr k _ ms HK.out hkb
  generalize bs1[k].id = x at *
  clear HK HRd HNx
  go_wp2_with fail
  refine hGo.mono ?_
  rintro e w3 ⟨a3, n3, c3, v3, w4, ms3, rfl, e3, h3⟩
  have HE3 := hid e3
  have H3 := hid h3
  clear hGo e3 h3 hcell c7 hlk
  go_wp2_with (at_builtin; refine wp_app_eq _ rfl (.tmp 21) (.tmp 29) 49 rfl _ _ _ _ rfl rfl HE3.out ?_)
  go_round
  case rel => exact ⟨k + 1, ms3, by omega, by go_num, H3⟩
  case measure => simp [intOf]; omega
 ·obtain rfl : k = N := by omega
  have q1 : ¬ (k : Int) < (k : Int) := by omega
  have HR := HK
  rw [← HN.out] at HR
  clear HK HRd HNx
  go_wp2
  go_ret
  exact ⟨_, bs1, qs1, ac, cc, ms, rfl, HL1.out, HRq.out, by rw [HN.out]; exact hn16, HR.out⟩
end
end Go.Proofs.YtjgggialnegddaaGreat
