/-
  The texts De3, De5, StKeep of this proof.
-/
import Derived.Test.YtjgggialnegddaaGreatPr35
import Derived.Test.YtjgggialnegddaaGreatPr34
import Derived.Lib.AppendZeros
import Derived.Test.YtjgggialnegddaaGreatPr02
set_option linter.unusedVariables false
set_option maxRecDepth 1000000
namespace Go.Proofs.YtjgggialnegddaaGreat
open Go.RowKit
theorem dlen_at {W : World} {g : Nat} {pm ta : Option Addr} {tc : Nat} {ha : Option Addr} {hc : Nat} {pq : Option Addr} {c : Cf} {ts : List Int} (h : StIn W g pm ta tc ha hc pq c ts) :
  Calls Tryz.prog 82 #[.pointer (some ⟨g, 0, none⟩)] W fun e w' => e = .returned (.int .i64 ts.length) ∧ Below W.heap.size W w' :=
 (dlen_in h).mono fun e w' ⟨h1, h2⟩ => ⟨h1, by rw [h2]; exact Below.refl _ _⟩
set_option maxHeartbeats 1000000 in
theorem dfeed_yes {F : Nat → Prop} (p : Option Addr) (c : Cf) (ts : List Int) (t : Int) (w : World) (hs : StAt w p c ts F) (hc : mayB c = true) (h0 : 0 ≤ t) (h1 : t < c.vocab) (hl : ts.length < 256) :
  Calls Tryz.prog 81 #[.pointer p, .int .i64 t] w fun e w' => GivesS w F c (ts ++ [t]) e w' := by
 have hone := hs.one
 obtain ⟨g, pm, ta, tc, ha, hc', pq, rfl, h, hF⟩ := hs.get
 have HLn := hid fun (W : World) (hb : Below w.heap.size w W) => dlen_at (h.below hb)
 have HC := hid fun (W : World) (hb : Below w.heap.size w W) => config_any pm c W (h.md.below hb)
 have HT := hid fun (W : World) => istoken_any c t W
 rw [tokB_yes h0 h1] at HT
 have HWi := hid fun (W : World) (hb : Below w.heap.size w W) => dwith_any (h.below hb) hc (by omega) t
 have HK := hid fun (W : World) (hb : Below w.heap.size w W) => (h.below hb).cells
 have HE : Hid (∀ W W' e, Below w.heap.size w W → GivesW W pm c (ts ++ [t]) e W' → ∃ g5, e = .returned (.pointer (some ⟨g5, 0, none⟩)) ∧ GivesS w F c (ts ++ [t]) (.returned (.tuple #[.pointer (some ⟨g5, 0, none⟩), .int .i64 0])) W') := by
  rintro W W' e hb ⟨g5, t5, k5, a5, c5, q5, rfl, hS, hk, hb5⟩
  have hbb := hb.trans (hb5.mono hb.size)
  exact ⟨g5, rfl, g5, _, rfl, hS.at (by simp) (by simp; omega), stF_of hbb (fun k hk' => .inr (Nat.le_trans hb.size (hk k hk'))), hbb⟩
 generalize hN : ts.length = n at *
 have HH := hid hN
 clear hs h hF hc h0 h1 hN HH
 have z1 : ((n : Int) == 0) = false := by simp; omega
 have z2 : ((n : Int) == 256) = false := by simp; omega
 have z3 : (n : Int) ≠ 0 := by omega
 have z4 : (n : Int) ≠ 256 := by omega
 go_enter Tryz.func81, Tryz.ntmps81
 go_wp2_with fail
 refine (HLn.out w (Below.refl _ _)).mono ?_
 rintro e w1 ⟨rfl, hb⟩
 have HV := hid hb
 obtain ⟨c0, c1, c2, c3⟩ := HK.out _ hb
 clear hb
 go_wp2_with fail
 refine (HC.out _ HV.out).mono ?_
 rintro e w2 ⟨rfl, hb⟩
 replace HV := hid (HV.out.trans (hb.mono HV.out.size))
 clear c0 c1 c2 c3 hb HK HC
 go_wp2_with fail
 refine (HT.out _).mono ?_
 rintro e w3 ⟨rfl, hb⟩
 replace HV := hid (HV.out.trans (hb.mono HV.out.size))
 clear hb HT
 go_wp2_with fail
 refine (HLn.out _ HV.out).mono ?_
 rintro e w4 ⟨rfl, hb⟩
 replace HV := hid (HV.out.trans (hb.mono HV.out.size))
 clear hb HLn
 go_wp2_with fail
 refine (HWi.out _ HV.out).mono ?_
 intro e w5 hW
 obtain ⟨g5, rfl, hS⟩ := HE.out _ _ _ HV.out hW
 have HS := hid hS
 clear hW hS HE HWi HV
 go_wp2
 go_ret2
 exact HS.out
theorem dnext_full {F : Nat → Prop} (p : Option Addr) (c : Cf) (ts : List Int) (seed : Int) (w : World) (hs : StAt w p c ts F) (hc : mayB c = true) (hl : ts.length = 256) :
  Calls Tryz.prog 107 #[.pointer p, .int .u64 seed] w fun e w' => e = .returned (.tuple #[.int .i64 0, .bool false]) ∧ Below w.heap.size w w' := by
 have hL := dlen_any p c ts w hs
 rw [hl, show ((256 : Nat) : Int) = 256 from rfl] at hL
 clear hs hc hl
 go_enter Tryz.func107, Tryz.ntmps107
 go_wp2_with fail
 refine hL.mono ?_
 rintro e w1 ⟨rfl, hb⟩
 have HV := hid hb
 clear hb hL
 go_wp2
 go_ret2
 exact ⟨rfl, HV.out⟩
set_option maxHeartbeats 1000000 in
theorem dnext_yes {F : Nat → Prop} (p : Option Addr) (c : Cf) (ts : List Int) (seed : Int) (w : World) (hs : StAt w p c ts F) (hc : mayB c = true) (hl : ts.length < 256) :
  Calls Tryz.prog 107 #[.pointer p, .int .u64 seed] w fun e w' => e = .returned (.tuple #[.int .i64 (toldZ c ts seed), .bool true]) ∧ Below w.heap.size w w' := by
 have hone := hs.one
 obtain ⟨g, pm, ta, tc, ha, hc', pq, rfl, h, hF⟩ := hs.get
 have hLn := dlen_at h
 obtain ⟨hl1, hd, hT, hBs, hBi⟩ := h.mks
 simp only at hl1 hT hBs hBi
 obtain ⟨m, hm⟩ : ∃ m, ts.length = m + 1 := ⟨ts.length - 1, by omega⟩
 obtain ⟨b1, o1, rfl, cm⟩ := hT.rd.cell m (by omega)
 have hro := hT.rows m (by omega)
 have hsh := hT.short m (by omega)
 rw [outsL_at c ts (by omega)] at hro
 have HN := hid fun (W : World) (hb : Below w.heap.size w W) => snext_any pm c _ _ _ _ seed (ts.length : Int) W (h.md.below hb) hc (hro.below hb) hsh
 have hTo : nextZ c (outK c ts (m + 1)) seed (ts.length : Int) = toldZ c ts seed := by unfold toldZ; rw [hm]
 rw [hTo] at HN
 have HK := hid fun (W : World) (hb : Below w.heap.size w W) => (h.below hb).cells
 have HKm := hid fun (W : World) (hb : Below w.heap.size w W) => cell_later_of cm hb
 have r2 := hT.rd.room
 have m2 := hT.rd.most
 clear hs h hF hc hT hBs hBi hl1 hro hTo cm
 generalize hd[m]?.getD (none, 0, 0) = y at *
 obtain ⟨y1, y2, y3⟩ := y
 simp only at HN HKm hsh
 generalize toldZ c ts seed = td at *
 generalize ts.length = n at *
 have z1 : ((n : Int) == 0) = false := by simp; omega
 have z2 : ((n : Int) == 256) = false := by simp; omega
 have z3 : (n : Int) ≠ 0 := by omega
 have z4 : (n : Int) ≠ 256 := by omega
 have hw : IntKind.i64.wrap ((n : Int) - 1) = (m : Int) := by rw [wrap_in (by omega) (by omega)]; omega
 have hu : IntKind.u64.wrap (n : Int) = (n : Int) := by rw [IntKind.wrap_u64]; omega
 have l0 : (0 : Int) ≤ (m : Int) := by omega
 have l1 : (m : Int) < (n : Int) := by omega
 have l2 : m < n := by omega
 clear hm hl hone
 go_enter Tryz.func107, Tryz.ntmps107
 go_wp2_with fail
 refine hLn.mono ?_
 rintro e w1 ⟨rfl, hb⟩
 have HV : Hid (Below w.heap.size w w1.drew) := hb.drew
 have HVs := hid hb
 clear hb hLn
 go_wp2_with fail
 go_region_held3 (fun W : World => W.cell? ⟨g, 0, none⟩ = some (.pointer pm) ∧ W.cell? ⟨g, 2, none⟩ = some (.slice (some ⟨b1, o1, none⟩) n hc') ∧ W.cell? ⟨b1, o1 + m, none⟩ = some (.slice y1 y2 y3)) (first | (exact ⟨(HK.out _ HV.out).1, (HK.out _ HV.out).2.2.1, HKm.out _ HV.out⟩) | (exact ⟨(HK.out _ HVs.out).1, (HK.out _ HVs.out).2.2.1, HKm.out _ HVs.out⟩))
  (first
   | (go_at_call 149; (with_reducible refine (HN.out _ HV.out).mono ?_); rintro e w2 ⟨rfl, hb⟩; replace HV := hid (HV.out.trans (hb.mono HV.out.size)); clear hb))
 all_goals
  go_wp2_with fail
  go_ret2
  exact ⟨rfl, HV.out⟩
def cutT (n : Int) (k : Nat) : Nat := (max 1 (min n k)).toNat
theorem Reads.tight {k : IntKind} {w : World} {a : Option Addr} {len cap : Nat} {zs : List Int} (h : Reads k w a len cap zs) {m : Nat} (hm : m ≤ len) : Reads k w a m m (zs.take m) :=
 ⟨by rw [List.length_take, h.size]; omega, Nat.le_refl _, by have := h.most; have := h.room; omega, fun e => by have := h.bare e; omega, fun i hi => by
  obtain ⟨b, off, e, hc⟩ := h.cell i (by omega)
  exact ⟨b, off, e, by rw [hc, List.getElem?_take_of_lt hi]⟩⟩
theorem cut_end {w W : World} {g : Nat} {pm ta : Option Addr} {tc : Nat} {ha : Option Addr} {hc : Nat} {pq : Option Addr} {c : Cf} {ts : List Int} (h : StIn w g pm ta tc ha hc pq c ts) {m : Nat} (hm : m ≤ ts.length) (hb : Below w.heap.size w W)
  {B : Nat} (hM : MemAt W (some ⟨B, 0, none⟩) (cutM (memL c c.layers.toNat (tvsL c ts) ts.length) m)) :
  StIn (W.alloc (.cells #[.pointer pm, .slice ta m m, .slice ha m m, .pointer (some ⟨B, 0, none⟩)] 181)) W.heap.size pm ta m ha m (some ⟨B, 0, none⟩) c (ts.take m) := by
 have hA : Below W.heap.size W (W.alloc (.cells #[.pointer pm, .slice ta m m, .slice ha m m, .pointer (some ⟨B, 0, none⟩)] 181)) := (Below.refl _ _).alloc (Nat.le_refl _) _
 have hl : (ts.take m).length = m := by rw [List.length_take]; omega
 refine ⟨?_, (h.md.below hb).below hA, ?_, ?_, ?_, ((h.below hb).below hA).bl⟩
 ·rw [hl]; exact heap_alloc_new W _
 ·rw [hl]; exact ((h.tk.below hb).below hA).tight hm
 ·rw [hl, ← outsL_take c ts hm]; exact TbH.cut ((h.mks.below hb).below hA) hm
 ·rw [← memL_take c ts hm]; exact hM.below hA
set_option maxHeartbeats 1000000 in
theorem dcut_any {F : Nat → Prop} (p : Option Addr) (c : Cf) (ts : List Int) (n : Int) (w : World) (hs : StAt w p c ts F) (hc : mayB c = true) :
  Calls Tryz.prog 87 #[.pointer p, .int .i64 n] w fun e w' => ∃ g F', e = .returned (.pointer (some ⟨g, 0, none⟩)) ∧ StAt w' (some ⟨g, 0, none⟩) c (ts.take (cutT n ts.length)) F' ∧ (∀ k, F' k → F k ∨ w.heap.size ≤ k ∨ NotInt w k) ∧ Below w.heap.size w w' := by
 have hone := hs.one
 have hmo := hs.most
 obtain ⟨g, pm, ta, tc, ha, hc', pq, rfl, h, hF⟩ := hs.get
 have h4 := may_parts hc
 have HLn := hid fun (W : World) (hb : Below w.heap.size w W) => dlen_at (h.below hb)
 have HK := hid fun (W : World) (hb : Below w.heap.size w W) => (h.below hb).cells
 obtain ⟨m, hm⟩ : ∃ m, cutT n ts.length = m := ⟨_, rfl⟩
 obtain ⟨x, hx⟩ : ∃ x : Int, (if (ts.length : Int) < n then (ts.length : Int) else n) = x := ⟨_, rfl⟩
 have hmq : m ≤ ts.length := by unfold cutT at hm; omega
 have hm1 : 1 ≤ m := by unfold cutT at hm; omega
 have hA : (if (1 : Int) < x then x else 1) = (m : Int) := by
  unfold cutT at hm
  rw [← hx]
  split <;> split at * <;> omega
 have hB : (if x < (1 : Int) then 1 else x) = (m : Int) := by
  unfold cutT at hm
  rw [← hx]
  split <;> split at * <;> omega
 rw [hm]
 have HCu := hid fun (W : World) (hb : Below w.heap.size w W) => cut_any pq (memL c c.layers.toNat (tvsL c ts) ts.length) (m : Int) ts.length W (h.mem.below hb) (by rw [memL_len]; omega) (memL_even _ _ _ _) (by omega) (fun e => by rw [memL_len] at e; omega)
 have hcm : cutN (m : Int) ts.length = m := by unfold cutN; omega
 rw [hcm] at HCu
 have HE : Hid (∀ (W : World) (B : Nat), Below w.heap.size w W → MemAt W (some ⟨B, 0, none⟩) (cutM (memL c c.layers.toNat (tvsL c ts) ts.length) m) →
   ∃ F', StAt (W.alloc (.cells #[.pointer pm, .slice ta m m, .slice ha m m, .pointer (some ⟨B, 0, none⟩)] 181)) (some ⟨W.heap.size, 0, none⟩) c (ts.take m) F' ∧ (∀ k, F' k → F k ∨ w.heap.size ≤ k ∨ NotInt w k) ∧ Below w.heap.size w (W.alloc (.cells #[.pointer pm, .slice ta m m, .slice ha m m, .pointer (some ⟨B, 0, none⟩)] 181))) := by
  intro W B hb hM
  have hl : (ts.take m).length = m := by rw [List.length_take]; omega
  exact ⟨_, (cut_end h hmq hb hM).at (by omega) (by omega), stF_of (hb.alloc hb.size _) (fun k hk => .inl (hF k hk)), hb.alloc hb.size _⟩
 have r1 := h.tk.room
 have m1 := h.tk.most
 have r2 := h.mks.2.choose_spec.1.rd.room
 have m2 := h.mks.2.choose_spec.1.rd.most
 simp only at r2 m2
 have q1 : m ≤ tc := by omega
 have q2 : m ≤ hc' := by omega
 clear hs h hF hc hm hcm h4
 generalize memL c c.layers.toNat (tvsL c ts) ts.length = MM at *
 generalize ts.length = k at *
 have z1 : ((k : Int) == 0) = false := by simp; omega
 have z3 : (k : Int) ≠ 0 := by omega
 go_enter Tryz.func87, Tryz.ntmps87
 go_wp2_with fail
 refine (HLn.out w (Below.refl _ _)).mono ?_
 rintro e w1 ⟨rfl, hb⟩
 have HV := hid hb
 clear hb
 go_wp2_with fail
 refine (HLn.out _ HV.out).mono ?_
 rintro e w2 ⟨rfl, hb⟩
 replace HV := hid (HV.out.trans (hb.mono HV.out.size))
 clear hb HLn
 go_wp2_with fail
 replace HV : Hid (Below w.heap.size w w2.drew) := HV.out.drew
 have HUa := hid fun (W : World) (hb : Below w.heap.size w W) (o : Obj) => hb.alloc hb.size o
 go_region_held3 (fun W : World => W.cell? ⟨g, 0, none⟩ = some (.pointer pm) ∧ W.cell? ⟨g, 1, none⟩ = some (.slice ta k tc) ∧ W.cell? ⟨g, 2, none⟩ = some (.slice ha k hc') ∧ W.cell? ⟨g, 3, none⟩ = some (.pointer pq)) (first | (with_reducible exact HK.out _ HV.out) | (with_reducible exact HK.out _ (HUa.out _ HV.out _)))
  (first
   | (go_at_call 113; (with_reducible refine (firsti_any ta k tc m _ q1 m1).mono ?_); rintro e w' ⟨rfl, rfl⟩)
   | (go_at_call 114; (with_reducible refine (firstr_any ha k hc' m _ q2 m2).mono ?_); rintro e w' ⟨rfl, rfl⟩)
   | (go_at_call 115; (with_reducible refine (HCu.out _ HV.out).mono ?_); rintro e w3 ⟨B3, g3, ps3, rfl, _, _, hM3, hb⟩; replace HV := hid (HV.out.trans (hb.mono HV.out.size)); have HM3 : Hid (MemAt w3 (some ⟨B3, 0, none⟩) (cutM MM m)) := .inr ⟨_, _, _, rfl, hM3⟩; clear hb hM3))
 all_goals
  have HF := hid (HE.out w3 B3 HV.out HM3.out)
  go_wp2_with fail
  go_ret
  obtain ⟨F', k1, k2, k3⟩ := HF.out
  exact ⟨_, F', rfl, k1, k2, k3⟩
end Go.Proofs.YtjgggialnegddaaGreat
namespace Go.Proofs.YtjgggialnegddaaGreat
open Go.RowKit
theorem foot_trans {w wr : World} {F F1 F2 : Nat → Prop} (hb : Below w.heap.size w wr) (h1 : ∀ k, F1 k → F k ∨ w.heap.size ≤ k ∨ NotInt w k) (h2 : ∀ k, F2 k → F1 k ∨ wr.heap.size ≤ k ∨ NotInt wr k) (k : Nat) (hk : F2 k) : F k ∨ w.heap.size ≤ k ∨ NotInt w k := by
 rcases h2 k hk with h | h | h
 ·exact h1 k h
 ·exact .inr (.inl (Nat.le_trans hb.size h))
 ·rcases Nat.lt_or_ge k w.heap.size with hl | hl
  ·exact .inr (.inr (h.back hb hl))
  ·exact .inr (.inl hl)
end Go.Proofs.YtjgggialnegddaaGreat
namespace Go.Proofs.YtjgggialnegddaaGreat
open Go.RowKit
def KpL (W W' : World) : Prop := ∀ (k : Nat) (cur : Array Value) (t : TypeId) (fz : Nat × Nat), W.heap[k]? = some (.cells cur t fz) → (t = 2 ∨ t = 131 ∨ t = 229 ∨ t = 226 ∨ t = 100 ∨ t = 181) → W'.heap[k]? = some (.cells cur t fz)
theorem KpL.of {W W' : World} (h : Below W.heap.size W W') : KpL W W' := fun k cur t fz h1 _ => (h.block k (lt_of_block h1)).trans h1
theorem KpL.fb {F : Nat → Prop} {W W' : World} (h : Fb F W W') (hF : ∀ k cur t fz, F k → W.heap[k]? = some (.cells cur t fz) → ¬ (t = 2 ∨ t = 131 ∨ t = 229 ∨ t = 226 ∨ t = 100 ∨ t = 181)) : KpL W W' := fun k cur t fz h1 h2 => h.one h1 fun hf => hF k cur t fz hf h1 h2
theorem Reads.keepL {W W' : World} {a : Option Addr} {l c : Nat} {zs : List Int} (hr : Reads .i64 W a l c zs) (h5 : BlI W a) (hk : KpL W W') : Reads .i64 W' a l c zs ∧ BlI W' a := by
 have key : ∀ p, a = some p → W'.heap[p.block]? = W.heap[p.block]? := by
  intro p hp
  obtain ⟨cur, fz, hc⟩ := h5 p hp
  rw [hc]
  exact hk _ _ _ _ hc (.inl rfl)
 refine ⟨hr.blk key, fun p hp => ?_⟩
 obtain ⟨cur, fz, hc⟩ := h5 p hp
 exact ⟨cur, fz, (key p hp).trans hc⟩
theorem TbH.keepL {W W' : World} {h : Hd} {ls : List (List Int)} (k : TbH W h ls) (hk : KpL W W') : TbH W' h ls := by
 obtain ⟨h1, hs, h2, h3, h4⟩ := k
 have key : ∀ p, h.1 = some p → W'.heap[p.block]? = W.heap[p.block]? := by
  intro p hp
  obtain ⟨cur, fz, hc⟩ := h3 p hp
  rw [hc]
  exact hk _ _ _ _ hc (.inr (.inl rfl))
 refine ⟨h1, hs, ⟨⟨h2.rd.size, h2.rd.room, h2.rd.most, h2.rd.bare, fun i hi => ?_⟩, fun i hi => (Reads.keepL (h2.rows i hi) (h4 i hi) hk).1, h2.short⟩, fun p hp => ?_, fun i hi => (Reads.keepL (h2.rows i hi) (h4 i hi) hk).2⟩
 ·obtain ⟨b, off, ha, hc⟩ := h2.rd.cell i hi
  exact ⟨b, off, ha, (World.cell?_of_block (a := ⟨b, off + i, none⟩) (key ⟨b, off, none⟩ ha)).trans hc⟩
 ·obtain ⟨cur, fz, hc⟩ := h3 p hp
  exact ⟨cur, fz, (key p hp).trans hc⟩
theorem MemAt.keepL {W W' : World} {p : Option Addr} {M : List KV} (h : MemAt W p M) (hk : KpL W W') : MemAt W' p M := by
 rcases h with h | ⟨B, g, ps, hp, h⟩
 ·exact .inl h
 ·obtain ⟨cur, hc⟩ := h.own.blk
  exact .inr ⟨B, g, ps, hp, hk _ _ _ _ h.var (by decide), own_same h.own ((hk _ _ _ _ hc (by decide)).trans hc.symm), fun i hi => ⟨(h.rows i hi).1.keepL hk, (h.rows i hi).2.keepL hk⟩⟩
theorem MdAt.keepL {W W' : World} {p : Option Addr} {c : Cf} (h : MdAt W p c) (hk : KpL W W') : MdAt W' p c := by
 rcases h with h | ⟨g, hp, hg⟩
 ·exact .inl h
 ·exact .inr ⟨g, hp, hk _ _ _ _ hg (by decide)⟩
theorem StIn.keepL {W W' : World} {g : Nat} {pm ta : Option Addr} {tc : Nat} {ha : Option Addr} {hc : Nat} {pq : Option Addr} {c : Cf} {ts : List Int} (h : StIn W g pm ta tc ha hc pq c ts) (hk : KpL W W') (hb : ∀ x, mF ta x → W'.heap[x]? = W.heap[x]?) : StIn W' g pm ta tc ha hc pq c ts :=
 ⟨hk _ _ _ _ h.var (by decide), h.md.keepL hk, h.tk.same hb, h.mks.keepL hk, h.mem.keepL hk, fun p hp => by
  obtain ⟨cur, fz, hc⟩ := h.bl p hp
  exact ⟨cur, fz, (hb _ ⟨p, hp, rfl⟩).trans hc⟩⟩
def StT (W : World) (q : Option Addr) (c : Cf) (ts : List Int) (ta : Option Addr) : Prop := ∃ (g : Nat) (pm : Option Addr) (tc : Nat) (ha : Option Addr) (hc : Nat) (pq : Option Addr), q = some ⟨g, 0, none⟩ ∧ StIn W g pm ta tc ha hc pq c ts ∧ BlN W ta ∧ 1 ≤ ts.length ∧ ts.length ≤ 256
theorem StT.keep {W W' : World} {q : Option Addr} {c : Cf} {ts : List Int} {ta : Option Addr} (h : StT W q c ts ta) (hk : KpL W W') (hb : ∀ x, mF ta x → W'.heap[x]? = W.heap[x]?) : StT W' q c ts ta := by
 obtain ⟨g, pm, tc, ha, hc, pq, h1, h2, h3, h4⟩ := h
 refine ⟨g, pm, tc, ha, hc, pq, h1, h2.keepL hk hb, fun p hp => ?_, h4⟩
 obtain ⟨cur, fz, hc⟩ := h3 p hp
 exact ⟨cur, fz, (hb _ ⟨p, hp, rfl⟩).trans hc⟩
end Go.Proofs.YtjgggialnegddaaGreat
