/-
  The texts EnW6 of this proof.
-/
import Derived.Test.YtjgggialnegddaaGreatPn41
import Derived.Test.YtjgggialnegddaaGreatPn34
import Derived.Deep.RegionHeld3
set_option linter.unusedVariables false
set_option maxRecDepth 1000000
namespace Go.Proofs.YtjgggialnegddaaGreat
open Go.RowKit Go.Maps
theorem StT.at {W : World} {q : Option Addr} {c : Cf} {ts : List Int} {ta : Option Addr} (h : StT W q c ts ta) : StAt W q c ts (stF W ta) := by
 obtain ⟨g, pm, tc, ha, hc, pq, rfl, k2, k3, k4, k5⟩ := h
 exact k2.at k4 k5
theorem StT.one {W : World} {q : Option Addr} {c : Cf} {ts : List Int} {ta : Option Addr} (h : StT W q c ts ta) : 1 ≤ ts.length ∧ ts.length ≤ 256 := by
 obtain ⟨g, pm, tc, ha, hc, pq, rfl, k2, k3, k4, k5⟩ := h
 exact ⟨k4, k5⟩
theorem StT.ptr {W : World} {q : Option Addr} {c : Cf} {ts : List Int} {ta : Option Addr} (h : StT W q c ts ta) : ∃ g, q = some ⟨g, 0, none⟩ := by
 obtain ⟨g, pm, tc, ha, hc, pq, rfl, k2, k3, k4, k5⟩ := h
 exact ⟨g, rfl⟩
theorem StAt.from {w w' : World} {q' : Option Addr} {c : Cf} {ts' : List Int} {F F0 : Nat → Prop} (hS : StAt w' q' c ts' F) (hF : ∀ k, F k → F0 k ∨ w.heap.size ≤ k ∨ NotInt w k) (hb : Below w.heap.size w w') : ∃ ta', StT w' q' c ts' ta' ∧ ∀ k, mF ta' k → (F0 k ∧ ¬ NotInt w k) ∨ w.heap.size ≤ k := by
 obtain ⟨ta', hT, hta⟩ := hS.d
 refine ⟨ta', hT, fun k hk => ?_⟩
 have hnot : ¬ NotInt w k := fun ⟨cur, t, fz, e1, e2⟩ => by
  obtain ⟨cur', fz', hcur⟩ := hT.int hk
  rw [(hb.block _ (lt_of_block e1)).trans e1] at hcur
  simp at hcur
  exact e2 hcur.2.1
 rcases hF k (hta k hk) with h' | h' | h'
 ·exact .inl ⟨h', hnot⟩
 ·exact .inr h'
 ·exact absurd h' hnot
theorem elen_any {q : Option Addr} {c : Cf} {ts : List Int} {ta : Option Addr} (w : World) (h : StT w q c ts ta) : Calls Tryz.prog 82 #[.pointer q] w fun e w' => e = .returned (.int .i64 ts.length) ∧ w = w' := by
 obtain ⟨g, pm, tc, ha, hc, pq, rfl, k2, k3, k4, k5⟩ := h
 exact (dlen_in k2).mono fun e w' ⟨h1, h2⟩ => ⟨h1, h2.symm⟩
theorem enew_any (p : Option Addr) (c : Cf) (w : World) (hp : ∃ g, p = some ⟨g, 0, none⟩ ∧ w.heap[g]? = some (.cells (CfV c) 100 (0, 0))) (hc : mayB c = true) :
  Calls Tryz.prog 106 #[.pointer p] w fun e w' => ∃ q ta, e = .returned (.tuple #[.pointer q, .int .i64 0]) ∧ StT w' q c [0] ta ∧ (∀ k, mF ta k → w.heap.size ≤ k) ∧ Below w.heap.size w w' := by
 obtain ⟨g, rfl, hg⟩ := hp
 refine (dnew_yes _ c w (.inr ⟨g, rfl, hg⟩) hc).mono ?_
 rintro e w' ⟨g', F, rfl, hS, hF, hb⟩
 obtain ⟨ta, hT, hta⟩ := hS.from hF hb
 refine ⟨_, ta, rfl, hT, fun k hk => ?_, hb⟩
 rcases hta k hk with ⟨⟨a, e, rfl⟩, hn⟩ | h'
 ·cases e
  exact absurd ⟨_, _, _, hg, by decide⟩ hn
 ·exact h'
theorem efeed_any {q : Option Addr} {c : Cf} {ts : List Int} {ta : Option Addr} (t : Int) (w : World) (h : StT w q c ts ta) (hc : mayB c = true) (h0 : 0 ≤ t) (h1 : t < c.vocab) (hl : ts.length < 256) :
  Calls Tryz.prog 81 #[.pointer q, .int .i64 t] w fun e w' => ∃ q' ta', e = .returned (.tuple #[.pointer q', .int .i64 0]) ∧ StT w' q' c (ts ++ [t]) ta' ∧ (∀ k, mF ta' k → mF ta k ∨ w.heap.size ≤ k) ∧ Below w.heap.size w w' := by
 refine (dfeed_yes q c ts t w h.at hc h0 h1 hl).mono ?_
 rintro e w' ⟨g', F, rfl, hS, hF, hb⟩
 obtain ⟨ta', hT, hta⟩ := hS.from hF hb
 refine ⟨_, ta', rfl, hT, fun k hk => ?_, hb⟩
 rcases hta k hk with ⟨h' | h', hn⟩ | h'
 ·exact absurd h' hn
 ·exact .inl h'
 ·exact .inr h'
def FromG (w : World) (tb : Option Addr) (c : Cf) (seed : Int) (ts : List Int) (m k : Nat) (e : Ending) (w' : World) : Prop :=
 ∃ a cap q b ta, e = .returned (.tuple #[.slice a (refL c seed ts (min m k)).length cap, .pointer q, .bool b]) ∧ Reads .i64 w' a (refL c seed ts (min m k)).length cap (refL c seed ts (min m k)) ∧ (∀ p, a = some p → w.heap.size ≤ p.block ∧ IntB w' p.block) ∧ StT w' q c (ts ++ refL c seed ts (min m k)) ta ∧ (∀ k, mF ta k → mF tb k ∨ w.heap.size ≤ k) ∧
  (b = true → refL c seed (ts ++ refL c seed ts (min m k)) (m - (refL c seed ts (min m k)).length) = []) ∧ (b = false → (refL c seed ts (min m k)).length = k) ∧ Below w.heap.size w w'
theorem efrom_any (p : Option Addr) (q : Option Addr) (c : Cf) (j : Jb) (ts : List Int) (tb : Option Addr) (n k m : Nat) (w : World) (hp : ∃ g, p = some ⟨g, 0, none⟩ ∧ w.heap[g]? = some (.cells (CfV c) 100 (0, 0))) (hc : mayB c = true) (hj : JbIn w j) (hs : StT w q c ts tb) (hn : j.most = (n + m : Nat)) (hM : j.most ≤ 256) (hk : k ≤ 1000) :
  Calls Tryz.prog 56 #[.pointer p, .agg (JbV j), .pointer q, .int .i64 n, .int .i64 k] w fun e w' => FromG w tb c j.seed ts m k e w' := by
 obtain ⟨g, rfl, hg⟩ := hp
 rcases Nat.eq_zero_or_pos m with rfl | hm
 ·refine (from_stop _ q j n k w (by omega) (by omega) fun W hb => fol_out q j n W (by omega)).mono ?_
  rintro e w' ⟨rfl, hb⟩
  have h0 : refL c j.seed ts (min 0 k) = [] := by rw [Nat.zero_min]; rfl
  unfold FromG
  rw [h0]
  exact ⟨none, 0, q, true, tb, rfl, Reads.nil _ _, (fun p hp => by cases hp), by rw [List.append_nil]; exact hs.below hb, fun k hk => .inl hk, fun _ => rfl, (fun h => by cases h), hb⟩
 ·refine (dfrom_go _ q c j ts n k m w (.inr ⟨g, rfl, hg⟩) hc hj hs.at hn hm hM hk).mono ?_
  rintro e w' ⟨a, cap, g', b, F, rfl, h1, h2, h3, h4, h5, hb, h6⟩
  obtain ⟨ta', hT, hta⟩ := h2.from h3 hb
  refine ⟨a, cap, _, b, ta', rfl, h1, h6, hT, fun k hk => ?_, h4, h5, hb⟩
  rcases hta k hk with ⟨(h' | h') | ⟨a, e, rfl⟩, hn⟩ | h'
  ·exact absurd h' hn
  ·exact .inl h'
  ·cases e
   exact absurd ⟨_, _, _, hg, by decide⟩ hn
  ·exact .inr h'
theorem eover_any (id inc n why : Int) (w : World) : Calls Tryz.prog 58 #[.int .u64 id, .int .u64 inc, .int .u64 n, .int .i64 why] w fun e w' => e = .returned (.agg (MgC (ovM id inc n why) none 0 0)) ∧ Below w.heap.size w w' := by
 go_enter Tryz.func58, Tryz.ntmps58
 go_wp2
 exact bodyPost_ret (v := .agg (MgC (ovM id inc n why) none 0 0)) (by simp [results, Tryz.results58, go_sem, MgC, ovM]) rfl ⟨rfl, by go_grown⟩
theorem etext_any (j : Jb) (w : World) (hj : JbIn w j) (hl : j.lp ≤ 1000) :
  Calls Tryz.prog 79 #[.agg (JbV j)] w fun e w' => ∃ g cap, e = .returned (.slice (some ⟨g, 0, none⟩) (1 + j.lp) cap) ∧ Reads .i64 w' (some ⟨g, 0, none⟩) (1 + j.lp) cap (0 :: j.ts) ∧ w.heap.size ≤ g ∧ Below w.heap.size w w' := by
 obtain ⟨i0, hi, hz0, hz1, hz2⟩ := info_parts Tryz.info3
 obtain ⟨wA, hwA⟩ : ∃ wA, wA = w.alloc (.cells (JbV j) 43) := ⟨_, rfl⟩
 have hbA : Below w.heap.size w wA := by rw [hwA]; exact (Below.refl _ _).alloc (Nat.le_refl _) _
 obtain ⟨wB, hwB⟩ : ∃ wB, wB = wA.alloc (.cells #[.int .i64 0] 3) := ⟨_, rfl⟩
 have hbB : Below wA.heap.size wA wB := by rw [hwB]; exact (Below.refl _ _).alloc (Nat.le_refl _) _
 have hbw := hbA.trans (hbB.mono hbA.size)
 have hA : wB.heap[w.heap.size]? = some (.cells (JbV j) 43 (0, 0)) := block_bel (by rw [hwA]; exact heap_alloc_new w _) hbB
 obtain ⟨x0, x1, x2⟩ := Jb_cells hA
 have HR := hid (Reads.below hj hbw)
 have HO : Hid (wB.ownsRow w.heap.size 3 1 (.slice (some ⟨wA.heap.size, 0, none⟩) 1 1) 1 (([0] : List Int).map (Value.int .i64))) := by
  unfold Hid
  rw [hwB]
  exact World.ownsRow_lit (base := w.heap.size) (e := 3) (size := 1) wA #[.int .i64 0] 1 hbA.size (by unfold maxLen; omega) (by simp)
 have HB := hid hbw
 have hsA : wA.heap.size = w.heap.size + 1 := by rw [hwA]; simp
 have hWB : wB = (w.alloc (.cells (JbV j) 43)).alloc (.cells #[.int .i64 0] 3) := by rw [hwB, hwA]
 rw [hWB] at x0 x1 x2
 obtain ⟨sd, ap, lp, cp, ts, mo⟩ := j
 unfold JbV at *
 simp only at *
 clear hbA hbB hbw hA hj hwB
 rw [hsA] at HO
 clear hwA hsA wA
 go_enter Tryz.func79, Tryz.ntmps79
 go_wp2_with (at_builtin; rw [← hWB]; refine append_any _ rfl (.tmp 3) (.tmp 5) 41 rfl w.heap.size 3 i0 (.int .i64 0) 8 Tryz.underlying41 hi hz0 hz1 hz2 rfl .i64 _ 1 [0] rfl HO.out ap lp cp ts rfl HR.out (by omega) (by omega) HB.out.size ?_; intro v' w3 hO3 hb3)
 obtain ⟨g, cap, e3⟩ : ∃ g cap, v' = .slice (some ⟨g, 0, none⟩) (1 + lp) cap := by
  rcases id hO3.2 with ⟨_, h0⟩ | ⟨g, cap, cur, e, _⟩
  ·omega
  ·exact ⟨g, cap, e⟩
 subst e3
 obtain ⟨a4, c4, e4, hr4⟩ := Reads.own (k := .i64) hO3
 cases e4
 have HL : Hid (w.heap.size ≤ g) := (World.ownsRow.lt hO3 g rfl).1
 have HR4 : Hid (Reads .i64 w3 (some ⟨g, 0, none⟩) (1 + lp) cap (0 :: ts)) := hr4
 have HB3 := hid (HB.out.trans hb3)
 clear hO3 hb3 hr4 HR HB HO x0 x1 x2 hWB
 go_wp2
 go_ret
 exact ⟨_, _, rfl, HR4.out, HL.out, HB3.out⟩
theorem At_cells {W : World} {b : Nat} {a : At} {pa : Option Addr} {pc : Nat} {sp : Option Addr} (h : W.heap[b]? = some (.cells (AtV a pa pc sp) 106 (0, 0))) : W.cell? ⟨b, 0, none⟩ = some (.int .u64 a.id) ∧ W.cell? ⟨b, 1, none⟩ = some (.int .u64 a.seed) ∧ W.cell? ⟨b, 2, none⟩ = some (.slice pa a.ts.length pc) ∧ W.cell? ⟨b, 3, none⟩ = some (.int .i64 a.most) ∧ W.cell? ⟨b, 4, none⟩ = some (.int .i64 a.k) ∧ W.cell? ⟨b, 5, none⟩ = some (.pointer sp) := by
 refine ⟨?_, ?_, ?_, ?_, ?_, ?_⟩ <;> (rw [cell_of_row _ _ _ _ _ _ h]; rfl)
def jbA (a : At) (pa : Option Addr) (pc : Nat) : Jb := ⟨a.seed, pa, a.ts.length, pc, a.ts, a.most⟩
theorem ebehind_any {b : Nat} {a : At} {pa : Option Addr} {pc : Nat} {sp : Option Addr} {c : Cf} {ts : List Int} {ta : Option Addr} (w : World) (hv : w.heap[b]? = some (.cells (AtV a pa pc sp) 106 (0, 0))) (hr : Reads .i64 w pa a.ts.length pc a.ts) (hs : StT w sp c ts ta) (hl : a.ts.length ≤ 255) (n : Int) (hn : (ts.length : Int) - (1 + a.ts.length : Nat) = n) :
  Calls Tryz.prog 57 #[.pointer (some ⟨b, 0, none⟩)] w fun e w' => e = .returned (.int .i64 n) ∧ Below w.heap.size w w' := by
 have HK : Hid (∀ W : World, Below w.heap.size w W → W.cell? ⟨b, 1, none⟩ = some (.int .u64 a.seed) ∧ W.cell? ⟨b, 2, none⟩ = some (.slice pa a.ts.length pc) ∧ W.cell? ⟨b, 3, none⟩ = some (.int .i64 a.most) ∧ W.cell? ⟨b, 5, none⟩ = some (.pointer sp)) := fun W hb => by
  obtain ⟨_, h1, h2, h3, _, h5⟩ := At_cells (block_bel hv hb)
  exact ⟨h1, h2, h3, h5⟩
 have HL := hid fun (W : World) (hb : Below w.heap.size w W) => elen_any W (hs.below hb)
 have HT := hid fun (W : World) (hb : Below w.heap.size w W) => etext_any (jbA a pa pc) W (Reads.below hr hb) (by show a.ts.length ≤ 1000; omega)
 obtain ⟨t1, t2⟩ := hs.one
 obtain ⟨k0, k1, k2, k3⟩ := HK.out w (Below.refl _ _)
 unfold JbV jbA at HT
 simp only at HT
 clear hv hr hs
 obtain ⟨id, sd, ts', mo, kk, rn⟩ := a
 simp only at *
 generalize ts'.length = lp at *
 generalize ts.length = ln at *
 have hsub : (ln : Int) - ((1 + lp : Nat) : Int) = n := hn
 have hsub2 : (ln : Int) - (1 + (lp : Int)) = n := by omega
 have HWn : Hid (IntKind.i64.wrap n = n) := wrap64_in (by omega) (by omega)
 go_enter Tryz.func57, Tryz.ntmps57
 go_wp2_with fail
 have HV : Hid (Below w.heap.size w w.drew) := (Below.refl _ _).drew
 clear k0 k1 k2 k3
 go_region_held3 (fun W : World => W.cell? ⟨b, 1, none⟩ = some (.int .u64 sd) ∧ W.cell? ⟨b, 2, none⟩ = some (.slice pa lp pc) ∧ W.cell? ⟨b, 3, none⟩ = some (.int .i64 mo) ∧ W.cell? ⟨b, 5, none⟩ = some (.pointer sp)) (first | (with_reducible exact HK.out _ (Below.refl _ _)) | (with_reducible exact HK.out _ HV.out))
  (first
   | (go_at_call 82; (with_reducible refine (HL.out _ HV.out).mono ?_); rintro e w1 ⟨rfl, rfl⟩)
   | (go_at_call 79; (with_reducible refine (HT.out _ HV.out).mono ?_); rintro e w2 ⟨g2, d2, rfl, _, _, hb⟩; replace HV := hid (HV.out.trans (hb.mono HV.out.size)); clear hb)
   | fail)
 all_goals
  go_wp2_with fail
  go_ret
  exact ⟨by show Ending.returned (.int .i64 (IntKind.i64.wrap n)) = _; rw [HWn.out], HV.out⟩
end Go.Proofs.YtjgggialnegddaaGreat
