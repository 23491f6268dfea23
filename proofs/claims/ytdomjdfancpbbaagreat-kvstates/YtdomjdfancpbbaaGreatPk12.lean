/-
  De3: Contracts of package decode: Feed, Next, Cut of a state.
  De4: Contracts: slices.Grow of nothing, slices.Concat of two lists of ints.
  De5: Contracts of package decode: feedAll, Start.
  KvRef: The document's side of layer 14: its cache in memory (RcAtP P); contracts of Begins, place, Has, leaf, Find.
  KvHelp: What the statements of layer 14 lean on: small, state, short, a step's text.
  StKeep: A state of package decode as it lies in memory, with no more said of other blocks (StD): it stays where blocks of its own types, and its tokens, stay.
  KvWant: A cache of package kv in memory as the statements' walks want it: what it says (KvG, FndS, DocB), without how it lies.
  PgMath: Mathematics of layer 13: how often each page of a pool is held (hs); what is taken, held, dropped; which are held.
  PgRef: The document's side of layer 13: contracts of its pool: New, Take, Held, Hold, Drop, Used.
-/
import Derived.Test.YtdomjdfancpbbaaGreatPk11
import Derived.Test.YtdomjdfancpbbaaGreatPk10
import Derived.Lib.AppendZeros
import Derived.Test.YtdomjdfancpbbaaGreatPk02
import Derived.Deep.QuietTactic
import Derived.BigQuiet
import Derived.Test.YtdomjdfancpbbaaGreatPk04
import Derived.Test.YtdomjdfancpbbaaGreatPk03
import Derived.Test.YtdomjdfancpbbaaGreatPk01
namespace Go.Proofs.YtdomjdfancpbbaaGreat
open Go.RowKit
set_option linter.unusedVariables false
set_option maxRecDepth 1000000

theorem dlen_at {W : World} {g : Nat} {pm ta : Option Addr} {tc : Nat} {ha : Option Addr} {hc : Nat} {pq : Option Addr} {c : Cf} {ts : List Int} (h : StIn W g pm ta tc ha hc pq c ts) :
    Calls Tryz.prog 14 #[.pointer (some ⟨g, 0, none⟩)] W fun e w' => e = .returned (.int .i64 ts.length) ∧ Below W.heap.size W w' :=
  (dlen_in h).mono fun e w' ⟨h1, h2⟩ => ⟨h1, by rw [h2]; exact Below.refl _ _⟩
set_option maxHeartbeats 1000000 in
theorem dfeed_yes {F : Nat → Prop} (p : Option Addr) (c : Cf) (ts : List Int) (t : Int) (w : World) (hs : StAt w p c ts F) (hc : mayB c = true) (h0 : 0 ≤ t) (h1 : t < c.vocab) (hl : ts.length < 256) :
    Calls Tryz.prog 25 #[.pointer p, .int .i64 t] w fun e w' => GivesS w F c (ts ++ [t]) e w' := by
  have hone := hs.one
  obtain ⟨g, pm, ta, tc, ha, hc', pq, rfl, h, hF⟩ := hs.get
  have HLn := hid fun (W : World) (hb : Below w.heap.size w W) => dlen_at (h.below hb)
  have HC := hid fun (W : World) (hb : Below w.heap.size w W) => config_any pm c W (h.md.below hb)
  have HT := hid fun (W : World) => istoken_any c t W
  rw [tokB_yes h0 h1] at HT
  have HWi := hid fun (W : World) (hb : Below w.heap.size w W) => dwith_any (h.below hb) hc (by omega) t
  have HK := hid fun (W : World) (hb : Below w.heap.size w W) => (h.below hb).cells
  have HE : Hid (∀ W W' e, Below w.heap.size w W → GivesW W pm c (ts ++ [t]) e W' → ∃ g5, e = .returned (.pointer (some ⟨g5, 0, none⟩)) ∧ GivesS w F c (ts ++ [t]) (.returned (.tuple #[.pointer (some ⟨g5, 0, none⟩), .int .i64 0])) W') := by
    rintro W W' e hb ⟨g5, t5, k5, a5, c5, q5, rfl, hS, hk, hb5⟩
    have hbb := hb.trans (hb5.mono hb.size)
    exact ⟨g5, rfl, g5, _, rfl, hS.at (by simp) (by simp; omega), stF_of hbb (fun k hk' => .inr (Nat.le_trans hb.size (hk k hk'))), hbb⟩
  generalize hN : ts.length = n at *
  have HH := hid hN
  clear hs h hF hc h0 h1 hN HH
  have z1 : ((n : Int) == 0) = false := by simp; omega
  have z2 : ((n : Int) == 256) = false := by simp; omega
  have z3 : (n : Int) ≠ 0 := by omega
  have z4 : (n : Int) ≠ 256 := by omega
  go_enter Tryz.func25, Tryz.ntmps25
  go_wp2_with fail
  refine (HLn.out w (Below.refl _ _)).mono ?_
  rintro e w1 ⟨rfl, hb⟩
  have HV := hid hb
  obtain ⟨c0, c1, c2, c3⟩ := HK.out _ hb
  clear hb
  go_wp2_with fail
  refine (HC.out _ HV.out).mono ?_
  rintro e w2 ⟨rfl, hb⟩
  replace HV := hid (HV.out.trans (hb.mono HV.out.size))
  clear c0 c1 c2 c3 hb HK HC
  go_wp2_with fail
  refine (HT.out _).mono ?_
  rintro e w3 ⟨rfl, hb⟩
  replace HV := hid (HV.out.trans (hb.mono HV.out.size))
  clear hb HT
  go_wp2_with fail
  refine (HLn.out _ HV.out).mono ?_
  rintro e w4 ⟨rfl, hb⟩
  replace HV := hid (HV.out.trans (hb.mono HV.out.size))
  clear hb HLn
  go_wp2_with fail
  refine (HWi.out _ HV.out).mono ?_
  intro e w5 hW
  obtain ⟨g5, rfl, hS⟩ := HE.out _ _ _ HV.out hW
  have HS := hid hS
  clear hW hS HE HWi HV
  go_wp2
  go_ret2
  exact HS.out
set_option maxHeartbeats 1000000 in
theorem dfeed_arg {F : Nat → Prop} (p : Option Addr) (c : Cf) (ts : List Int) (t : Int) (w : World) (hs : StAt w p c ts F) (hc : mayB c = true) (h : t < 0 ∨ c.vocab ≤ t) :
    Calls Tryz.prog 25 #[.pointer p, .int .i64 t] w fun e w' => e = .returned (.tuple #[.pointer none, .int .i64 1]) ∧ Below w.heap.size w w' := by
  have hone := hs.one
  obtain ⟨g, pm, ta, tc, ha, hc', pq, rfl, hS, hF⟩ := hs.get
  have HLn := hid fun (W : World) (hb : Below w.heap.size w W) => dlen_at (hS.below hb)
  have HC := hid fun (W : World) (hb : Below w.heap.size w W) => config_any pm c W (hS.md.below hb)
  have HT := hid fun (W : World) => istoken_any c t W
  rw [tokB_no h] at HT
  have HK := hid fun (W : World) (hb : Below w.heap.size w W) => (hS.below hb).cells
  generalize ts.length = n at *
  clear hs hS hF hc h
  have z1 : ((n : Int) == 0) = false := by simp; omega
  have z3 : (n : Int) ≠ 0 := by omega
  go_enter Tryz.func25, Tryz.ntmps25
  go_wp2_with fail
  refine (HLn.out w (Below.refl _ _)).mono ?_
  rintro e w1 ⟨rfl, hb⟩
  have HV := hid hb
  obtain ⟨c0, c1, c2, c3⟩ := HK.out _ hb
  clear hb
  go_wp2_with fail
  refine (HC.out _ HV.out).mono ?_
  rintro e w2 ⟨rfl, hb⟩
  replace HV := hid (HV.out.trans (hb.mono HV.out.size))
  clear c0 c1 c2 c3 hb HK HC HLn
  go_wp2_with fail
  refine (HT.out _).mono ?_
  rintro e w3 ⟨rfl, hb⟩
  replace HV := hid (HV.out.trans (hb.mono HV.out.size))
  clear hb HT
  go_wp2
  go_ret2
  exact ⟨rfl, HV.out⟩
theorem dfeed_nil (t : Int) (w : World) :
    Calls Tryz.prog 25 #[.pointer none, .int .i64 t] w fun e w' => e = .returned (.tuple #[.pointer none, .int .i64 2]) ∧ Below w.heap.size w w' := by
  go_enter Tryz.func25, Tryz.ntmps25
  go_wp2_with fail
  refine (dlen_nil w).mono ?_
  rintro e w1 ⟨rfl, hb⟩
  have HV := hid hb
  clear hb
  go_wp2
  go_ret2
  exact ⟨rfl, HV.out⟩

theorem dnext_nil (seed : Int) (w : World) :
    Calls Tryz.prog 26 #[.pointer none, .int .u64 seed] w fun e w' => e = .returned (.tuple #[.int .i64 0, .bool false]) ∧ Below w.heap.size w w' := by
  go_enter Tryz.func26, Tryz.ntmps26
  go_wp2_with fail
  refine (dlen_nil w).mono ?_
  rintro e w1 ⟨rfl, hb⟩
  have HV := hid hb
  clear hb
  go_wp2
  go_ret2
  exact ⟨rfl, HV.out⟩
theorem dnext_full {F : Nat → Prop} (p : Option Addr) (c : Cf) (ts : List Int) (seed : Int) (w : World) (hs : StAt w p c ts F) (hc : mayB c = true) (hl : ts.length = 256) :
    Calls Tryz.prog 26 #[.pointer p, .int .u64 seed] w fun e w' => e = .returned (.tuple #[.int .i64 0, .bool false]) ∧ Below w.heap.size w w' := by
  have hL := dlen_any p c ts w hs
  rw [hl, show ((256 : Nat) : Int) = 256 from rfl] at hL
  clear hs hc hl
  go_enter Tryz.func26, Tryz.ntmps26
  go_wp2_with fail
  refine hL.mono ?_
  rintro e w1 ⟨rfl, hb⟩
  have HV := hid hb
  clear hb hL
  go_wp2
  go_ret2
  exact ⟨rfl, HV.out⟩
set_option maxHeartbeats 1000000 in
theorem dnext_yes {F : Nat → Prop} (p : Option Addr) (c : Cf) (ts : List Int) (seed : Int) (w : World) (hs : StAt w p c ts F) (hc : mayB c = true) (hl : ts.length < 256) :
    Calls Tryz.prog 26 #[.pointer p, .int .u64 seed] w fun e w' => e = .returned (.tuple #[.int .i64 (toldZ c ts seed), .bool true]) ∧ Below w.heap.size w w' := by
  have hone := hs.one
  obtain ⟨g, pm, ta, tc, ha, hc', pq, rfl, h, hF⟩ := hs.get
  have hLn := dlen_at h
  obtain ⟨hl1, hd, hT, hBs, hBi⟩ := h.mks
  simp only at hl1 hT hBs hBi
  obtain ⟨m, hm⟩ : ∃ m, ts.length = m + 1 := ⟨ts.length - 1, by omega⟩
  obtain ⟨b1, o1, rfl, cm⟩ := hT.rd.cell m (by omega)
  have hro := hT.rows m (by omega)
  have hsh := hT.short m (by omega)
  rw [outsL_at c ts (by omega)] at hro
  have HN := hid fun (W : World) (hb : Below w.heap.size w W) => snext_any pm c _ _ _ _ seed (ts.length : Int) W (h.md.below hb) hc (hro.below hb) hsh
  have hTo : nextZ c (outK c ts (m + 1)) seed (ts.length : Int) = toldZ c ts seed := by unfold toldZ; rw [hm]
  rw [hTo] at HN
  have HK := hid fun (W : World) (hb : Below w.heap.size w W) => (h.below hb).cells
  have HKm := hid fun (W : World) (hb : Below w.heap.size w W) => cell_later_of cm hb
  have r2 := hT.rd.room
  have m2 := hT.rd.most
  clear hs h hF hc hT hBs hBi hl1 hro hTo cm
  generalize hd[m]?.getD (none, 0, 0) = y at *
  obtain ⟨y1, y2, y3⟩ := y
  simp only at HN HKm hsh
  generalize toldZ c ts seed = td at *
  generalize ts.length = n at *
  have z1 : ((n : Int) == 0) = false := by simp; omega
  have z2 : ((n : Int) == 256) = false := by simp; omega
  have z3 : (n : Int) ≠ 0 := by omega
  have z4 : (n : Int) ≠ 256 := by omega
  have hw : IntKind.i64.wrap ((n : Int) - 1) = (m : Int) := by rw [wrap_in (by omega) (by omega)]; omega
  have hu : IntKind.u64.wrap (n : Int) = (n : Int) := by rw [IntKind.wrap_u64]; omega
  have l0 : (0 : Int) ≤ (m : Int) := by omega
  have l1 : (m : Int) < (n : Int) := by omega
  have l2 : m < n := by omega
  clear hm hl hone
  go_enter Tryz.func26, Tryz.ntmps26
  go_wp2_with fail
  refine hLn.mono ?_
  rintro e w1 ⟨rfl, hb⟩
  have HV : Hid (Below w.heap.size w w1.drew) := hb.drew
  have HVs := hid hb
  clear hb hLn
  go_wp2_with fail
  go_region_held3 (fun W : World => W.cell? ⟨g, 0, none⟩ = some (.pointer pm) ∧ W.cell? ⟨g, 2, none⟩ = some (.slice (some ⟨b1, o1, none⟩) n hc') ∧ W.cell? ⟨b1, o1 + m, none⟩ = some (.slice y1 y2 y3)) (first | (exact ⟨(HK.out _ HV.out).1, (HK.out _ HV.out).2.2.1, HKm.out _ HV.out⟩) | (exact ⟨(HK.out _ HVs.out).1, (HK.out _ HVs.out).2.2.1, HKm.out _ HVs.out⟩))
    (first
      | (go_at_call 46; (with_reducible refine (HN.out _ HV.out).mono ?_); rintro e w2 ⟨rfl, hb⟩; replace HV := hid (HV.out.trans (hb.mono HV.out.size)); clear hb))
  all_goals
    go_wp2_with fail
    go_ret2
    exact ⟨rfl, HV.out⟩

/-- What a text is cut to. -/
def cutT (n : Int) (k : Nat) : Nat := (max 1 (min n k)).toNat
theorem Reads.tight {k : IntKind} {w : World} {a : Option Addr} {len cap : Nat} {zs : List Int} (h : Reads k w a len cap zs) {m : Nat} (hm : m ≤ len) : Reads k w a m m (zs.take m) :=
  ⟨by rw [List.length_take, h.size]; omega, Nat.le_refl _, by have := h.most; have := h.room; omega, fun e => by have := h.bare e; omega, fun i hi => by
    obtain ⟨b, off, e, hc⟩ := h.cell i (by omega)
    exact ⟨b, off, e, by rw [hc, List.getElem?_take_of_lt hi]⟩⟩
theorem cut_end {w W : World} {g : Nat} {pm ta : Option Addr} {tc : Nat} {ha : Option Addr} {hc : Nat} {pq : Option Addr} {c : Cf} {ts : List Int} (h : StIn w g pm ta tc ha hc pq c ts) {m : Nat} (hm : m ≤ ts.length) (hb : Below w.heap.size w W)
    {B : Nat} (hM : MemAt W (some ⟨B, 0, none⟩) (cutM (memL c c.layers.toNat (tvsL c ts) ts.length) m)) :
    StIn (W.alloc (.cells #[.pointer pm, .slice ta m m, .slice ha m m, .pointer (some ⟨B, 0, none⟩)] 86)) W.heap.size pm ta m ha m (some ⟨B, 0, none⟩) c (ts.take m) := by
  have hA : Below W.heap.size W (W.alloc (.cells #[.pointer pm, .slice ta m m, .slice ha m m, .pointer (some ⟨B, 0, none⟩)] 86)) := (Below.refl _ _).alloc (Nat.le_refl _) _
  have hl : (ts.take m).length = m := by rw [List.length_take]; omega
  refine ⟨?_, (h.md.below hb).below hA, ?_, ?_, ?_, ((h.below hb).below hA).bl⟩
  · rw [hl]; exact heap_alloc_new W _
  · rw [hl]; exact ((h.tk.below hb).below hA).tight hm
  · rw [hl, ← outsL_take c ts hm]; exact TbH.cut ((h.mks.below hb).below hA) hm
  · rw [← memL_take c ts hm]; exact hM.below hA
set_option maxHeartbeats 1000000 in
theorem dcut_any {F : Nat → Prop} (p : Option Addr) (c : Cf) (ts : List Int) (n : Int) (w : World) (hs : StAt w p c ts F) (hc : mayB c = true) :
    Calls Tryz.prog 33 #[.pointer p, .int .i64 n] w fun e w' => ∃ g F', e = .returned (.pointer (some ⟨g, 0, none⟩)) ∧ StAt w' (some ⟨g, 0, none⟩) c (ts.take (cutT n ts.length)) F' ∧ (∀ k, F' k → F k ∨ w.heap.size ≤ k ∨ NotInt w k) ∧ Below w.heap.size w w' := by
  have hone := hs.one
  have hmo := hs.most
  obtain ⟨g, pm, ta, tc, ha, hc', pq, rfl, h, hF⟩ := hs.get
  have h4 := may_parts hc
  have HLn := hid fun (W : World) (hb : Below w.heap.size w W) => dlen_at (h.below hb)
  have HK := hid fun (W : World) (hb : Below w.heap.size w W) => (h.below hb).cells
  obtain ⟨m, hm⟩ : ∃ m, cutT n ts.length = m := ⟨_, rfl⟩
  obtain ⟨x, hx⟩ : ∃ x : Int, (if (ts.length : Int) < n then (ts.length : Int) else n) = x := ⟨_, rfl⟩
  have hmq : m ≤ ts.length := by unfold cutT at hm; omega
  have hm1 : 1 ≤ m := by unfold cutT at hm; omega
  have hA : (if (1 : Int) < x then x else 1) = (m : Int) := by
    unfold cutT at hm
    rw [← hx]
    split <;> split at * <;> omega
  have hB : (if x < (1 : Int) then 1 else x) = (m : Int) := by
    unfold cutT at hm
    rw [← hx]
    split <;> split at * <;> omega
  rw [hm]
  have HCu := hid fun (W : World) (hb : Below w.heap.size w W) => cut_any pq (memL c c.layers.toNat (tvsL c ts) ts.length) (m : Int) ts.length W (h.mem.below hb) (by rw [memL_len]; omega) (memL_even _ _ _ _) (by omega) (fun e => by rw [memL_len] at e; omega)
  have hcm : cutN (m : Int) ts.length = m := by unfold cutN; omega
  rw [hcm] at HCu
  have HE : Hid (∀ (W : World) (B : Nat), Below w.heap.size w W → MemAt W (some ⟨B, 0, none⟩) (cutM (memL c c.layers.toNat (tvsL c ts) ts.length) m) →
      ∃ F', StAt (W.alloc (.cells #[.pointer pm, .slice ta m m, .slice ha m m, .pointer (some ⟨B, 0, none⟩)] 86)) (some ⟨W.heap.size, 0, none⟩) c (ts.take m) F' ∧ (∀ k, F' k → F k ∨ w.heap.size ≤ k ∨ NotInt w k) ∧ Below w.heap.size w (W.alloc (.cells #[.pointer pm, .slice ta m m, .slice ha m m, .pointer (some ⟨B, 0, none⟩)] 86))) := by
    intro W B hb hM
    have hl : (ts.take m).length = m := by rw [List.length_take]; omega
    exact ⟨_, (cut_end h hmq hb hM).at (by omega) (by omega), stF_of (hb.alloc hb.size _) (fun k hk => .inl (hF k hk)), hb.alloc hb.size _⟩
  have r1 := h.tk.room
  have m1 := h.tk.most
  have r2 := h.mks.2.choose_spec.1.rd.room
  have m2 := h.mks.2.choose_spec.1.rd.most
  simp only at r2 m2
  have q1 : m ≤ tc := by omega
  have q2 : m ≤ hc' := by omega
  clear hs h hF hc hm hcm h4
  generalize memL c c.layers.toNat (tvsL c ts) ts.length = MM at *
  generalize ts.length = k at *
  have z1 : ((k : Int) == 0) = false := by simp; omega
  have z3 : (k : Int) ≠ 0 := by omega
  go_enter Tryz.func33, Tryz.ntmps33
  go_wp2_with fail
  refine (HLn.out w (Below.refl _ _)).mono ?_
  rintro e w1 ⟨rfl, hb⟩
  have HV := hid hb
  clear hb
  go_wp2_with fail
  refine (HLn.out _ HV.out).mono ?_
  rintro e w2 ⟨rfl, hb⟩
  replace HV := hid (HV.out.trans (hb.mono HV.out.size))
  clear hb HLn
  go_wp2_with fail
  replace HV : Hid (Below w.heap.size w w2.drew) := HV.out.drew
  have HUa := hid fun (W : World) (hb : Below w.heap.size w W) (o : Obj) => hb.alloc hb.size o
  go_region_held3 (fun W : World => W.cell? ⟨g, 0, none⟩ = some (.pointer pm) ∧ W.cell? ⟨g, 1, none⟩ = some (.slice ta k tc) ∧ W.cell? ⟨g, 2, none⟩ = some (.slice ha k hc') ∧ W.cell? ⟨g, 3, none⟩ = some (.pointer pq)) (first | (with_reducible exact HK.out _ HV.out) | (with_reducible exact HK.out _ (HUa.out _ HV.out _)))
    (first
      | (go_at_call 49; (with_reducible refine (firsti_any ta k tc m _ q1 m1).mono ?_); rintro e w' ⟨rfl, rfl⟩)
      | (go_at_call 50; (with_reducible refine (firstr_any ha k hc' m _ q2 m2).mono ?_); rintro e w' ⟨rfl, rfl⟩)
      | (go_at_call 51; (with_reducible refine (HCu.out _ HV.out).mono ?_); rintro e w3 ⟨B3, g3, ps3, rfl, _, _, hM3, hb⟩; replace HV := hid (HV.out.trans (hb.mono HV.out.size)); have HM3 : Hid (MemAt w3 (some ⟨B3, 0, none⟩) (cutM MM m)) := .inr ⟨_, _, _, rfl, hM3⟩; clear hb hM3))
  all_goals
    have HF := hid (HE.out w3 B3 HV.out HM3.out)
    go_wp2_with fail
    go_ret
    obtain ⟨F', k1, k2, k3⟩ := HF.out
    exact ⟨_, F', rfl, k1, k2, k3⟩
theorem dcut_nil (n : Int) (w : World) : Calls Tryz.prog 33 #[.pointer none, .int .i64 n] w fun e w' => e = .returned (.pointer none) ∧ Below w.heap.size w w' := by
  go_enter Tryz.func33, Tryz.ntmps33
  go_wp2_with fail
  refine (dlen_nil w).mono ?_
  rintro e w1 ⟨rfl, hb⟩
  have HV := hid hb
  clear hb
  go_wp2
  go_ret
  exact ⟨rfl, HV.out⟩
end Go.Proofs.YtdomjdfancpbbaaGreat
namespace Go.Proofs.YtdomjdfancpbbaaGreat
open Go.RowKit
set_option linter.unusedVariables false
set_option maxRecDepth 1000000

theorem grow_run (n : Nat) (w : World) (h0 : 0 < n) (hn : n ≤ 1000) (ty : TypeId) : ∃ (g cap : Nat) (w' : World), (Builtin.append_ #[34, 3] ty #[.slice none 0 0, .int .i64 (n : Int)]).run Tryz.prog w = .ok (.slice (some ⟨g, 0, none⟩) n cap) w' ∧ w'.ownsRow w.heap.size 3 1 (.slice (some ⟨g, 0, none⟩) 0 cap) 0 [] ∧ n ≤ cap ∧ cap ≤ 9223372036854775807 ∧ Below w.heap.size w w' := by
  obtain ⟨i0, hi, hz0, hz1, hz2⟩ := info_parts Tryz.info3
  have hr := Lib.run_append_nil_zeros (P := Tryz.prog) w 34 3 ty 3 i0 (.int .i64 0) .i64 .i64 Tryz.underlying34 Tryz.underlying3 hi hz0 n h0 (by omega) (by omega) (by rw [hz2]; omega)
  have hge := grownCap_ge w n 0 3
  have hcm : grownCap w n 0 3 ≤ maxLen := grownCap_le_maxLen w n 0 3 (by unfold maxLen; omega)
  refine ⟨_, _, _, hr, ?_, hge, by unfold maxLen at hcm; omega, ((Below.refl _ _).drew.alloc (by simp) _)⟩
  exact World.ownsRow_made (base := w.heap.size) (e := 3) (size := 1) w.drew _ _ (Nat.le_refl _) hcm (by
    have : (Value.int IntKind.i64 0).cells.size = 1 := rfl
    simp only [Array.size_append, size_zeroCells, this]
    omega)
/-- A row of the call's own, of no ints yet, is handed back. -/
theorem grow_nil (n : Nat) (w : World) (hn : n ≤ 1000) :
    Calls Tryz.prog 103 #[.slice none 0 0, .int .i64 n] w fun e w' => ∃ v, e = .returned v ∧ w'.ownsRow w.heap.size 3 1 v 0 [] ∧ Below w.heap.size w w' := by
  by_cases h0 : n = 0
  · subst h0
    go_enter Tryz.func103, Tryz.ntmps103
    go_wp2
    go_ret
    exact ⟨_, rfl, World.ownsRow_nil _ _ _ _, Below.refl _ _⟩
  · have h1 : (0 : Int) < (n : Int) := by omega
    have h2 : ¬ (n : Int) < 0 := by omega
    obtain ⟨g, cap, w1, hr, hO, hl, hm, hb⟩ := grow_run n w (by omega) hn 34
    have HO := hid hO
    have HB := hid hb
    clear hO hb h0
    go_enter Tryz.func103, Tryz.ntmps103
    go_wp2_with (at_builtin; refine Lib.wpList_append_run _ rfl (.tmp 20) (.tmp 21) 34 3 rfl (.slice none 0 0) (.int .i64 (n : Int)) rfl rfl _ _ hr ?_)
    go_wp2
    go_ret
    exact ⟨_, rfl, HO.out, HB.out⟩

set_option maxHeartbeats 1000000 in
theorem concat_two (B : Nat) (a1 : Option Addr) (n1 c1 : Nat) (xs1 : List Int) (a2 : Option Addr) (n2 c2 : Nat) (xs2 : List Int) (w : World) (k0 : w.cell? ⟨B, 0, none⟩ = some (.slice a1 n1 c1)) (k1 : w.cell? ⟨B, 1, none⟩ = some (.slice a2 n2 c2)) (r1 : Reads .i64 w a1 n1 c1 xs1) (r2 : Reads .i64 w a2 n2 c2 xs2) (hn : n1 + n2 ≤ 1000) :
    Calls Tryz.prog 80 #[.slice (some ⟨B, 0, none⟩) 2 2] w fun e w' => Gives w (n1 + n2) (xs1 ++ xs2) e w' := by
  obtain ⟨i0, hi, hz0, hz1, hz2⟩ := info_parts Tryz.info3
  have HR1 := hid fun (W : World) (hb : Below w.heap.size w W) => r1.below hb
  have HR2 := hid fun (W : World) (hb : Below w.heap.size w W) => r2.below hb
  have HK := hid fun (W : World) (hb : Below w.heap.size w W) => (⟨cell_later_of k0 hb, cell_later_of k1 hb⟩ : W.cell? ⟨B, 0, none⟩ = some (.slice a1 n1 c1) ∧ W.cell? ⟨B, 1, none⟩ = some (.slice a2 n2 c2))
  have HG := hid fun (W : World) => grow_nil (n1 + n2) W hn
  have e1 := r1.room
  have e2 := r2.room
  have e3 := r1.most
  have e4 := r2.most
  have hw1 : IntKind.i64.wrap ((n1 : Int) + (n2 : Int)) = (n1 : Int) + (n2 : Int) := wrap_in (by omega) (by omega)
  have hng : ¬ ((n1 : Int) + (n2 : Int) < 0) := by omega
  have hng1 : ¬ ((n1 : Int) < 0) := by omega
  have hcs : ((n1 + n2 : Nat) : Int) = (n1 : Int) + (n2 : Int) := by omega
  rw [hcs] at HG
  clear r1 r2 hcs
  go_enter Tryz.func80, Tryz.ntmps80
  go_wp2_with fail
  go_loop [3, 11] (fun s i => ∃ k : Nat, i = .int .i64 k ∧ Hid ((k = 0 ∧ s = .int .i64 0) ∨ (k = 1 ∧ s = .int .i64 n1) ∨ (k = 2 ∧ s = .int .i64 ((n1 : Int) + (n2 : Int))))) (fun _ i => 2 - (intOf i).toNat)
  case atStart => exact ⟨0, rfl, .inl ⟨rfl, rfl⟩⟩
  case round =>
  obtain ⟨k, rfl, HC⟩ := hrel
  rcases HC.out with ⟨rfl, rfl⟩ | ⟨rfl, rfl⟩ | ⟨rfl, rfl⟩
  · clear HC HG
    go_wp2_with fail
    go_round
    case rel => exact ⟨1, rfl, .inr (.inl ⟨rfl, rfl⟩)⟩
    case measure => simp [intOf]
  · clear HC HG
    go_wp2_with fail
    go_round
    case rel => exact ⟨2, rfl, .inr (.inr ⟨rfl, rfl⟩)⟩
    case measure => simp [intOf]
  · clear HC
    go_wp2_with fail
    refine (HG.out _).mono ?_
    rintro e w1 ⟨v1, rfl, hO, hb⟩
    have HO0 := hid hO
    have HV0 := hid hb
    clear hO hb HG k0 k1
    go_wp2_with fail
    go_loopw [6, 27] (fun v i W => ∃ (k m : Nat) (us : List Int), i = .int .i64 k ∧ Hid (W.ownsRow w.heap.size 3 1 v m (us.map (Value.int .i64))) ∧ Hid (Below w.heap.size w W) ∧ Hid ((k = 0 ∧ m = 0 ∧ us = []) ∨ (k = 1 ∧ m = n1 ∧ us = xs1) ∨ (k = 2 ∧ m = n1 + n2 ∧ us = xs1 ++ xs2))) (fun _ i _ => 2 - (intOf i).toNat)
    case atStart => exact ⟨0, 0, [], rfl, HO0, HV0, .inl ⟨rfl, rfl, rfl⟩⟩
    case round =>
    obtain ⟨k, m, us, rfl, HO, HV, HC⟩ := hrel
    rename World => wr
    clear HO0 HV0
    obtain ⟨k0, k1⟩ := HK.out _ HV.out
    have HSz := hid HV.out.size
    rcases HC.out with ⟨rfl, rfl, rfl⟩ | ⟨rfl, rfl, rfl⟩ | ⟨rfl, rfl, rfl⟩
    · clear HC
      go_wp2_with (at_builtin; refine append_any _ rfl (.tmp 31) (.tmp 32) 34 rfl w.heap.size 3 i0 (.int .i64 0) 8 Tryz.underlying34 hi hz0 hz1 hz2 rfl .i64 _ 0 [] rfl HO.out a1 n1 c1 xs1 rfl (HR1.out _ HV.out) (by omega) (by omega) HSz.out ?_; intro v3 w3 hO3 hb3)
      have HO3 : Hid (w3.ownsRow w.heap.size 3 1 v3 n1 (xs1.map (Value.int .i64))) := by unfold Hid; rw [Nat.zero_add, List.nil_append] at hO3; exact hO3
      have HV3 := hid (HV.out.trans hb3)
      clear hO3 hb3 HO HV HSz k0 k1
      go_wp2_with fail
      go_round
      case rel => exact ⟨1, n1, xs1, rfl, HO3, HV3, .inr (.inl ⟨rfl, rfl, rfl⟩)⟩
      case measure => simp [intOf]
    · clear HC
      go_wp2_with (at_builtin; refine append_any _ rfl (.tmp 31) (.tmp 32) 34 rfl w.heap.size 3 i0 (.int .i64 0) 8 Tryz.underlying34 hi hz0 hz1 hz2 rfl .i64 _ _ _ rfl HO.out a2 n2 c2 xs2 rfl (HR2.out _ HV.out) (by omega) (by omega) HSz.out ?_; intro v3 w3 hO3 hb3)
      have HO3 := hid hO3
      have HV3 := hid (HV.out.trans hb3)
      clear hO3 hb3 HO HV HSz k0 k1
      go_wp2_with fail
      go_round
      case rel => exact ⟨2, _, _, rfl, HO3, HV3, .inr (.inr ⟨rfl, rfl, rfl⟩)⟩
      case measure => simp [intOf]
    · clear HC HSz k0 k1
      obtain ⟨a5, c5, rfl, hr5⟩ := Reads.own (k := .i64) HO.out
      have HR5 := hid hr5
      clear HO hr5
      go_wp2
      go_ret
      exact ⟨_, _, rfl, HR5.out, HV.out⟩
end Go.Proofs.YtdomjdfancpbbaaGreat
namespace Go.Proofs.YtdomjdfancpbbaaGreat
open Go.RowKit
set_option linter.unusedVariables false
set_option maxRecDepth 1000000

theorem foot_trans {w wr : World} {F F1 F2 : Nat → Prop} (hb : Below w.heap.size w wr) (h1 : ∀ k, F1 k → F k ∨ w.heap.size ≤ k ∨ NotInt w k) (h2 : ∀ k, F2 k → F1 k ∨ wr.heap.size ≤ k ∨ NotInt wr k) (k : Nat) (hk : F2 k) : F k ∨ w.heap.size ≤ k ∨ NotInt w k := by
  rcases h2 k hk with h | h | h
  · exact h1 k h
  · exact .inr (.inl (Nat.le_trans hb.size h))
  · rcases Nat.lt_or_ge k w.heap.size with hl | hl
    · exact .inr (.inr (h.back hb hl))
    · exact .inr (.inl hl)
theorem GivesS.up {w wr w' : World} {F F1 : Nat → Prop} {c : Cf} {ts : List Int} {e : Ending} (hb : Below w.heap.size w wr) (h1 : ∀ k, F1 k → F k ∨ w.heap.size ≤ k ∨ NotInt w k) (h : GivesS wr F1 c ts e w') : GivesS w F c ts e w' := by
  obtain ⟨g, F2, he, hS, hF, hb2⟩ := h
  exact ⟨g, F2, he, hS, foot_trans hb h1 hF, hb.trans (hb2.mono hb.size)⟩
theorem GivesE.up {w wr w' : World} {n : Int} {e : Ending} (hb : Below w.heap.size w wr) (h : GivesE wr n e w') : GivesE w n e w' := ⟨h.1, hb.trans (h.2.mono hb.size)⟩

set_option maxHeartbeats 1000000 in
theorem feedall_yes {F : Nat → Prop} (p : Option Addr) (c : Cf) (ts : List Int) (B : Nat) (a1 : Option Addr) (n1 c1 : Nat) (xs1 : List Int) (a2 : Option Addr) (n2 c2 : Nat) (xs2 : List Int) (w : World) (hs : StAt w p c ts F) (hc : mayB c = true)
    (k0 : w.cell? ⟨B, 0, none⟩ = some (.slice a1 n1 c1)) (k1 : w.cell? ⟨B, 1, none⟩ = some (.slice a2 n2 c2)) (r1 : Reads .i64 w a1 n1 c1 xs1) (r2 : Reads .i64 w a2 n2 c2 xs2) (hn : ts.length + (n1 + n2) ≤ 256)
    (hg : ∀ i, i < n1 + n2 → 0 ≤ (xs1 ++ xs2)[i]?.getD 0 ∧ (xs1 ++ xs2)[i]?.getD 0 < c.vocab) :
    Calls Tryz.prog 59 #[.pointer p, .slice (some ⟨B, 0, none⟩) 2 2] w fun e w' => GivesS w F c (ts ++ (xs1 ++ xs2)) e w' := by
  have hC := concat_two B a1 n1 c1 xs1 a2 n2 c2 xs2 w k0 k1 r1 r2 (by omega)
  have hul : (xs1 ++ xs2).length = n1 + n2 := by rw [List.length_append, r1.size, r2.size]
  obtain ⟨g0, rfl⟩ := hs.ptr
  clear k0 k1 r1 r2
  generalize xs1 ++ xs2 = us at *
  obtain ⟨N, hN⟩ : ∃ N, n1 + n2 = N := ⟨_, rfl⟩
  rw [hN] at hC hul hg hn
  clear hN
  have HFd := hid fun (k g : Nat) (F' : Nat → Prop) (W : World) (h : StAt W (some ⟨g, 0, none⟩) c (ts ++ us.take k) F') (hk : k < N) => dfeed_yes (some ⟨g, 0, none⟩) c (ts ++ us.take k) (us[k]?.getD 0) W h hc (hg k hk).1 (hg k hk).2 (by rw [List.length_append, List.length_take]; omega)
  have HTk : Hid (∀ k, k < N → (ts ++ us.take k) ++ [us[k]?.getD 0] = ts ++ us.take (k + 1)) := fun k hk => by rw [List.append_assoc, ← take_snoc (by omega)]
  have HT0 : Hid (ts ++ us.take 0 = ts) := by unfold Hid; simp
  have HTN : Hid (ts ++ us.take N = ts ++ us) := by unfold Hid; rw [List.take_of_length_le (by omega)]
  have HS0 := hid hs
  have hN256 : N ≤ 256 := by omega
  clear hs hc hg hn hul
  go_enter Tryz.func59, Tryz.ntmps59
  go_wp2_with fail
  refine hC.mono ?_
  rintro e w1 ⟨a, cap, rfl, hr, hb⟩
  have HR := hid hr
  have HV := hid hb
  have r1 := hr.room
  have m1 := hr.most
  have HS1 : Hid (StAt w1 (some ⟨g0, 0, none⟩) c (ts ++ us.take 0) F) := by unfold Hid; rw [HT0.out]; exact HS0.out.below hb
  clear hC hr hb HS0 HT0
  go_wp2_with fail
  go_loopw [0, 13] (fun u i W => ∃ (k g : Nat) (F' : Nat → Prop), k ≤ N ∧ u = .pointer (some ⟨g, 0, none⟩) ∧ i = .int .i64 k ∧ Hid (StAt W (some ⟨g, 0, none⟩) c (ts ++ us.take k) F') ∧ Hid (∀ x, F' x → F x ∨ w.heap.size ≤ x ∨ NotInt w x) ∧ Hid (Below w1.heap.size w1 W)) (fun _ i _ => N - (intOf i).toNat)
  case atStart => exact ⟨0, g0, F, Nat.zero_le _, rfl, rfl, HS1, fun x hx => .inl hx, Below.refl _ _⟩
  case round =>
  obtain ⟨k, g, F', hk, rfl, rfl, HS, HF, HW⟩ := hrel
  rename World => wr
  clear HS1
  by_cases hlt : k < N
  · obtain ⟨b1, o1, rfl, cc⟩ := (HR.out.below HW.out).cell k hlt
    have q1 : (k : Int) < (N : Int) := by omega
    have hFd := HFd.out k g F' wr HS.out hlt
    have HE := hid (HTk.out k hlt)
    rw [HE.out] at hFd
    clear HFd HTk HTN HR HE
    generalize us[k]?.getD 0 = t at *
    go_wp2_with fail
    refine hFd.mono ?_
    rintro e w2 ⟨g2, F2, rfl, hS2, hF2, hb2⟩
    have HS2 := hid hS2
    have HF2 := hid (foot_trans (HV.out.trans (HW.out.mono HV.out.size)) HF.out hF2)
    have HW2 := hid (HW.out.trans (hb2.mono HW.out.size))
    clear hFd hS2 hF2 hb2 HS HF HW cc
    go_wp2_with fail
    go_round
    case rel => exact ⟨k + 1, g2, F2, by omega, rfl, by go_num, HS2, HF2, HW2⟩
    case measure => simp [intOf]; omega
  · obtain rfl : k = N := by omega
    have HSe : Hid (StAt wr (some ⟨g, 0, none⟩) c (ts ++ us) F') := by unfold Hid; rw [← HTN.out]; exact HS.out
    have HVe := hid (HV.out.trans (HW.out.mono HV.out.size))
    clear HFd HTk HTN HR HS HW HV
    go_wp2
    go_ret2
    exact ⟨g, F', rfl, HSe.out, HF.out, HVe.out⟩
set_option maxHeartbeats 1000000 in
theorem feedall_no {F : Nat → Prop} (p : Option Addr) (c : Cf) (ts : List Int) (B : Nat) (a1 : Option Addr) (n1 c1 : Nat) (xs1 : List Int) (a2 : Option Addr) (n2 c2 : Nat) (xs2 : List Int) (w : World) (hs : StAt w p c ts F) (hc : mayB c = true)
    (k0 : w.cell? ⟨B, 0, none⟩ = some (.slice a1 n1 c1)) (k1 : w.cell? ⟨B, 1, none⟩ = some (.slice a2 n2 c2)) (r1 : Reads .i64 w a1 n1 c1 xs1) (r2 : Reads .i64 w a2 n2 c2 xs2) (hn : ts.length + (n1 + n2) ≤ 256) (q : Nat) (hq : q < n1 + n2)
    (hg : ∀ i, i < q → 0 ≤ (xs1 ++ xs2)[i]?.getD 0 ∧ (xs1 ++ xs2)[i]?.getD 0 < c.vocab) (hb : (xs1 ++ xs2)[q]?.getD 0 < 0 ∨ c.vocab ≤ (xs1 ++ xs2)[q]?.getD 0) :
    Calls Tryz.prog 59 #[.pointer p, .slice (some ⟨B, 0, none⟩) 2 2] w fun e w' => GivesE w 1 e w' := by
  have hC := concat_two B a1 n1 c1 xs1 a2 n2 c2 xs2 w k0 k1 r1 r2 (by omega)
  have hul : (xs1 ++ xs2).length = n1 + n2 := by rw [List.length_append, r1.size, r2.size]
  obtain ⟨g0, rfl⟩ := hs.ptr
  clear k0 k1 r1 r2
  generalize xs1 ++ xs2 = us at *
  obtain ⟨N, hN⟩ : ∃ N, n1 + n2 = N := ⟨_, rfl⟩
  rw [hN] at hC hul hn hq
  clear hN
  have HFd := hid fun (k g : Nat) (F' : Nat → Prop) (W : World) (h : StAt W (some ⟨g, 0, none⟩) c (ts ++ us.take k) F') (hk : k < q) => dfeed_yes (some ⟨g, 0, none⟩) c (ts ++ us.take k) (us[k]?.getD 0) W h hc (hg k hk).1 (hg k hk).2 (by rw [List.length_append, List.length_take]; omega)
  have HFn := hid fun (g : Nat) (F' : Nat → Prop) (W : World) (h : StAt W (some ⟨g, 0, none⟩) c (ts ++ us.take q) F') => dfeed_arg (some ⟨g, 0, none⟩) c (ts ++ us.take q) (us[q]?.getD 0) W h hc hb
  have HTk : Hid (∀ k, k < q → (ts ++ us.take k) ++ [us[k]?.getD 0] = ts ++ us.take (k + 1)) := fun k hk => by rw [List.append_assoc, ← take_snoc (by omega)]
  have HT0 : Hid (ts ++ us.take 0 = ts) := by unfold Hid; simp
  have HS0 := hid hs
  have hN256 : N ≤ 256 := by omega
  clear hs hc hg hn hul hb
  go_enter Tryz.func59, Tryz.ntmps59
  go_wp2_with fail
  refine hC.mono ?_
  rintro e w1 ⟨a, cap, rfl, hr, hb⟩
  have HR := hid hr
  have HV := hid hb
  have r1 := hr.room
  have m1 := hr.most
  have HS1 : Hid (StAt w1 (some ⟨g0, 0, none⟩) c (ts ++ us.take 0) F) := by unfold Hid; rw [HT0.out]; exact HS0.out.below hb
  clear hC hr hb HS0 HT0
  go_wp2_with fail
  go_loopw [0, 13] (fun u i W => ∃ (k g : Nat) (F' : Nat → Prop), k ≤ q ∧ u = .pointer (some ⟨g, 0, none⟩) ∧ i = .int .i64 k ∧ Hid (StAt W (some ⟨g, 0, none⟩) c (ts ++ us.take k) F') ∧ Hid (Below w1.heap.size w1 W)) (fun _ i _ => N - (intOf i).toNat)
  case atStart => exact ⟨0, g0, F, Nat.zero_le _, rfl, rfl, HS1, Below.refl _ _⟩
  case round =>
  obtain ⟨k, g, F', hk, rfl, rfl, HS, HW⟩ := hrel
  rename World => wr
  clear HS1
  have hlN : k < N := by omega
  obtain ⟨b1, o1, rfl, cc⟩ := (HR.out.below HW.out).cell k hlN
  have q1 : (k : Int) < (N : Int) := by omega
  by_cases hlt : k < q
  · have hFd := HFd.out k g F' wr HS.out hlt
    have HE := hid (HTk.out k hlt)
    rw [HE.out] at hFd
    clear HFd HTk HR HE HFn
    generalize us[k]?.getD 0 = t at *
    go_wp2_with fail
    refine hFd.mono ?_
    rintro e w2 ⟨g2, F2, rfl, hS2, hF2, hb2⟩
    have HS2 := hid hS2
    have HW2 := hid (HW.out.trans (hb2.mono HW.out.size))
    clear hFd hS2 hF2 hb2 HS HW cc
    go_wp2_with fail
    go_round
    case rel => exact ⟨k + 1, g2, F2, by omega, rfl, by go_num, HS2, HW2⟩
    case measure => simp [intOf]; omega
  · obtain rfl : q = k := by omega
    have hFd := HFn.out g F' wr HS.out
    clear HFd HTk HR HFn
    generalize us[q]?.getD 0 = t at *
    go_wp2_with fail
    refine hFd.mono ?_
    rintro e w2 ⟨rfl, hb2⟩
    have HVe := hid (HV.out.trans ((HW.out.trans (hb2.mono HW.out.size)).mono HV.out.size))
    clear hFd hb2 HS HW cc HV
    go_wp2
    go_ret2
    exact ⟨rfl, HVe.out⟩

/-- The first bad one. -/
theorem least_bad {P : Nat → Prop} {n : Nat} (h : ∃ i, i < n ∧ ¬ P i) : ∃ q, q < n ∧ ¬ P q ∧ ∀ i, i < q → P i := by
  obtain ⟨i, hi, hp⟩ := h
  induction i using Nat.strongRecOn with
  | _ i ih =>
    by_cases hl : ∀ j, j < i → P j
    · exact ⟨i, hi, hp, hl⟩
    · have : ∃ j, j < i ∧ ¬ P j := Classical.byContradiction fun hn => hl fun j hj => Classical.byContradiction fun hp' => hn ⟨j, hj, hp'⟩
      obtain ⟨j, hj, hpj⟩ := this
      exact ih j hj (by omega) hpj
/-- What Start hands back. -/
structure StartP (w : World) (p : Option Addr) (c : Cf) (j : Jb) (n : Nat) (us : List Int) (e : Ending) (w' : World) : Prop where
  no : mayJ c.vocab j.most j.ts = false → GivesE w 1 e w'
  many : mayJ c.vocab j.most j.ts = true → (j.most < n ∨ 255 < j.lp + n) → GivesE w 5 e w'
  arg : mayJ c.vocab j.most j.ts = true → n ≤ j.most → j.lp + n ≤ 255 → (∃ i, i < n ∧ (us[i]?.getD 0 < 0 ∨ c.vocab ≤ us[i]?.getD 0)) → GivesE w 1 e w'
  yes : mayJ c.vocab j.most j.ts = true → n ≤ j.most → j.lp + n ≤ 255 → (∀ i, i < n → 0 ≤ us[i]?.getD 0 ∧ us[i]?.getD 0 < c.vocab) → GivesS w (mF p) c (0 :: j.ts ++ us) e w'

theorem dstart_nil (j : Jb) (a : Option Addr) (n cap : Nat) (w : World) :
    Calls Tryz.prog 40 #[.pointer none, .agg (JbV j), .slice a n cap] w fun e w' => GivesE w 2 e w' := by
  obtain ⟨wA, hwA⟩ : ∃ wA, wA = w.alloc (.cells (JbV j) 94) := ⟨_, rfl⟩
  have HB0 : Hid (Below w.heap.size w wA) := by unfold Hid; rw [hwA]; exact (Below.refl _ _).alloc (Nat.le_refl _) _
  have hN := dnew_no none ⟨0, 0, 0, 0, 0, 0⟩ wA (.inl ⟨rfl, rfl⟩) (by decide)
  obtain ⟨sd, ap, lp, cp, ts, mo⟩ := j
  unfold JbV at hwA ⊢
  simp only at hwA ⊢
  go_enter Tryz.func40, Tryz.ntmps40
  go_wp2_with fail
  rw [← hwA]
  refine hN.mono ?_
  rintro e w1 ⟨rfl, hb⟩
  have HV := hid (HB0.out.trans (hb.mono HB0.out.size))
  clear hN hb HB0 hwA
  go_wp2
  go_ret2
  exact ⟨rfl, HV.out⟩

set_option maxHeartbeats 4000000 in
theorem dstart_all (p : Option Addr) (c : Cf) (j : Jb) (a : Option Addr) (n cap : Nat) (us : List Int) (w : World) (hp : MdAt w p c) (hc : mayB c = true) (hj : JbIn w j) (hu : Reads .i64 w a n cap us) :
    Calls Tryz.prog 40 #[.pointer p, .agg (JbV j), .slice a n cap] w fun e w' => StartP w p c j n us e w' := by
  obtain ⟨wA, hwA⟩ : ∃ wA, wA = w.alloc (.cells (JbV j) 94) := ⟨_, rfl⟩
  have HB0 : Hid (Below w.heap.size w wA) := by unfold Hid; rw [hwA]; exact (Below.refl _ _).alloc (Nat.le_refl _) _
  have HK := hid fun (W : World) (hb : Below wA.heap.size wA W) => Jb_cells (block_below (show wA.heap[w.heap.size]? = some (.cells (JbV j) 94 (0, 0)) by rw [hwA]; exact heap_alloc_new w _) hb)
  have hN := dnew_yes p c wA (hp.below HB0.out) hc
  have HC := hid fun (W : World) (hb : Below wA.heap.size wA W) => config_any p c W ((hp.below HB0.out).below hb)
  have HMa := hid fun (W : World) (hb : Below wA.heap.size wA W) => dmay_any c j W ((hj.below HB0.out).below hb)
  have HX : Hid (∀ W : World, Below wA.heap.size wA W → Below w.heap.size w W) := fun W hW => HB0.out.trans (hW.mono HB0.out.size)
  have HE1 : Hid (∀ W : World, Below w.heap.size w W → mayJ c.vocab j.most j.ts = false → StartP w p c j n us (.returned (.tuple #[.pointer none, .int .i64 1])) W) := fun W hb hm =>
    ⟨fun _ => ⟨rfl, hb⟩, fun h => Bool.noConfusion (hm.symm.trans h), fun h => Bool.noConfusion (hm.symm.trans h), fun h => Bool.noConfusion (hm.symm.trans h)⟩
  have HE5 : Hid (∀ W : World, Below w.heap.size w W → mayJ c.vocab j.most j.ts = true → (j.most < n ∨ 255 < j.lp + n) → StartP w p c j n us (.returned (.tuple #[.pointer none, .int .i64 5])) W) := fun W hb hm hn =>
    ⟨fun h => Bool.noConfusion (hm.symm.trans h), fun _ _ => ⟨rfl, hb⟩, fun _ h1 h2 => (by omega), fun _ h1 h2 => (by omega)⟩
  have HFA : Hid (∀ (B g : Nat) (F : Nat → Prop) (W : World), mayJ c.vocab j.most j.ts = true → n ≤ j.most → j.lp + n ≤ 255 → Below wA.heap.size wA W → StAt W (some ⟨g, 0, none⟩) c [0] F → (∀ k, F k → mF p k ∨ w.heap.size ≤ k ∨ NotInt w k) → W.cell? ⟨B, 0, none⟩ = some (.slice j.ap j.lp j.cp) → W.cell? ⟨B, 1, none⟩ = some (.slice a n cap) →
      Calls Tryz.prog 59 #[.pointer (some ⟨g, 0, none⟩), .slice (some ⟨B, 0, none⟩) 2 2] W fun e w' => ∃ q m, e = .returned (.tuple #[.pointer q, .int .i64 m]) ∧ StartP w p c j n us (.returned (.tuple #[.pointer q, .int .i64 m])) w') := by
    intro B g F W hm hn1 hn2 hb hS hF k0 k1
    have hj' := (hj.below HB0.out).below hb
    have hu' := (hu.below HB0.out).below hb
    have hbw := HX.out W hb
    obtain ⟨_, _, _, hgj⟩ := mayJ_iff.1 hm
    have hzj := hj.size
    have hzu := hu.size
    have hat : ∀ i, i < n → (j.ts ++ us)[j.lp + i]?.getD 0 = us[i]?.getD 0 := fun i hi => by rw [List.getElem?_append_right (by omega), hzj, Nat.add_sub_cancel_left]
    have haj : ∀ i, i < j.lp → (j.ts ++ us)[i]?.getD 0 = j.ts[i]?.getD 0 := fun i hi => by rw [List.getElem?_append_left (by omega)]
    by_cases hg : ∀ i, i < n → 0 ≤ us[i]?.getD 0 ∧ us[i]?.getD 0 < c.vocab
    · refine (feedall_yes (some ⟨g, 0, none⟩) c [0] B j.ap j.lp j.cp j.ts a n cap us W hS hc k0 k1 hj' hu' (by simp; omega) ?_).mono ?_
      · intro i hi
        rcases Nat.lt_or_ge i j.lp with hl | hl
        · rw [haj i hl]; exact hgj i (by omega)
        · obtain ⟨d, rfl⟩ : ∃ d, i = j.lp + d := ⟨i - j.lp, by omega⟩
          rw [hat d (by omega)]
          exact hg d (by omega)
      · intro e w' hG
        have hG2 := GivesS.up hbw hF hG
        obtain ⟨g5, F5, rfl, rest⟩ := hG
        exact ⟨_, _, rfl, ⟨fun h => Bool.noConfusion (hm.symm.trans h), fun _ h => (by omega), fun _ _ _ ⟨i, hi, hbad⟩ => (by have := hg i hi; omega), fun _ _ _ _ => hG2⟩⟩
    · have hbad : ∃ i, i < n ∧ ¬ (0 ≤ us[i]?.getD 0 ∧ us[i]?.getD 0 < c.vocab) := Classical.byContradiction fun hn => hg fun i hi => Classical.byContradiction fun hp' => hn ⟨i, hi, hp'⟩
      obtain ⟨q, hq, hnq, hlq⟩ := least_bad (P := fun i => 0 ≤ us[i]?.getD 0 ∧ us[i]?.getD 0 < c.vocab) hbad
      refine (feedall_no (some ⟨g, 0, none⟩) c [0] B j.ap j.lp j.cp j.ts a n cap us W hS hc k0 k1 hj' hu' (by simp; omega) (j.lp + q) (by omega) ?_ ?_).mono ?_
      · intro i hi
        rcases Nat.lt_or_ge i j.lp with hl | hl
        · rw [haj i hl]; exact hgj i (by omega)
        · obtain ⟨d, rfl⟩ : ∃ d, i = j.lp + d := ⟨i - j.lp, by omega⟩
          rw [hat d (by omega)]
          exact hlq d (by omega)
      · rw [hat q hq]
        omega
      · intro e w' hG
        have hG2 := GivesE.up hbw hG
        obtain ⟨rfl, rest⟩ := hG
        exact ⟨_, _, rfl, ⟨fun h => Bool.noConfusion (hm.symm.trans h), fun _ h => (by omega), fun _ _ _ _ => hG2, fun _ _ _ h => absurd h hg⟩⟩
  have HFt : Hid (∀ F : Nat → Prop, (∀ k, F k → mF p k ∨ wA.heap.size ≤ k ∨ NotInt wA k) → ∀ k, F k → mF p k ∨ w.heap.size ≤ k ∨ NotInt w k) := fun F h => foot_trans HB0.out (fun k hk => .inl hk) h
  have hzj := hj.size
  have r1 := hj.room
  have m1 := hj.most
  have r2 := hu.room
  have m2 := hu.most
  have HLp : Hid (mayJ c.vocab j.most j.ts = true → j.lp ≤ 255 ∧ j.most ≤ 256) := fun h => by
    have := mayJ_iff.1 h
    omega
  clear hp hc hj hu hzj
  generalize mayJ c.vocab j.most j.ts = bb at *
  obtain ⟨sd, ap, lp, cp, ts, mo⟩ := j
  unfold JbV at HMa hwA ⊢
  simp only at HMa HK hwA HE5 HFA HLp r1 m1 ⊢
  go_enter Tryz.func40, Tryz.ntmps40
  go_wp2_with fail
  rw [← hwA]
  refine hN.mono ?_
  rintro e w1 ⟨g1, F1, rfl, hS1, hF1, hb⟩
  have HS := hid hS1
  have HF := hid (HFt.out F1 hF1)
  have HV : Hid (Below wA.heap.size wA w1.drew) := hb.drew
  have HVs := hid hb
  clear hN hb hS1 hF1 hwA HFt
  go_wp2_with fail
  go_region_held3 (fun W : World => W.cell? ⟨w.heap.size, 0, none⟩ = some (.int .u64 sd) ∧ W.cell? ⟨w.heap.size, 1, none⟩ = some (.slice ap lp cp) ∧ W.cell? ⟨w.heap.size, 2, none⟩ = some (.int .i64 mo)) (first | (with_reducible exact HK.out _ HV.out) | (with_reducible exact HK.out _ HVs.out))
    (first
      | (go_at_call 29; (with_reducible refine (HC.out _ HV.out).mono ?_); rintro e w2 ⟨rfl, hb⟩; replace HV := hid (HV.out.trans (hb.mono HV.out.size)); replace HS := hid ((HS.out.below (Below.refl _ _).drew).below hb); clear hb)
      | (go_at_call 58; (with_reducible refine (HMa.out _ HV.out).mono ?_); rintro e w3 ⟨rfl, hb⟩; replace HV := hid (HV.out.trans (hb.mono HV.out.size)); replace HS := hid (HS.out.below hb); clear hb)
      | fail)
  have HLn : Hid (∀ q : Nat, Calls Tryz.prog 14 #[.pointer (some ⟨g1, 0, none⟩)] (w3.drewN q) fun e w' => e = .returned (.int .i64 1) ∧ w' = w3.drewN q) := fun q => by
    obtain ⟨g, pm, ta, tc, ha, hc', pq, e, h, _⟩ := HS.out.get
    cases e
    exact dlen_in (W := w3.drewN q) (h.below (W' := w3.drewN q) ⟨rfl, rfl, rfl, Nat.le_refl _, fun _ _ => rfl⟩)
  have HXd : Hid (∀ q : Nat, Below w.heap.size w (w3.drewN q)) := fun q => (HX.out _ HV.out).trans ⟨rfl, rfl, rfl, Nat.le_refl _, fun _ _ => rfl⟩
  have HVq : Hid (∀ q : Nat, Below wA.heap.size wA (w3.drewN q)) := fun q => HV.out.trans ⟨rfl, rfl, rfl, Nat.le_refl _, fun _ _ => rfl⟩
  have HSq : Hid (∀ q : Nat, StAt (w3.drewN q) (some ⟨g1, 0, none⟩) c [0] F1) := fun q => HS.out.below ⟨rfl, rfl, rfl, Nat.le_refl _, fun _ _ => rfl⟩
  obtain ⟨x0, x1, x2⟩ := HK.out _ HV.out
  clear HMa HC HVs
  cases bb with
  | false =>
    have HEn := hid (HE1.out w3 (HX.out _ HV.out) rfl)
    clear HE1 HE5 HFA HLn HXd HVq HSq HK HX
    go_wp2
    go_ret2
    exact HEn.out
  | true =>
    clear HE1
    obtain ⟨l255, o256⟩ := HLp.out rfl
    have hw1 : IntKind.i64.wrap (1 + (lp : Int)) = 1 + (lp : Int) := wrap_in (by omega) (by omega)
    by_cases hA : mo < (n : Int)
    · have d1 : decide (mo < (n : Int)) = true := decide_eq_true hA
      have HEn := hid fun q => HE5.out (w3.drewN q) (HXd.out q) rfl (.inl hA)
      clear HE5 HFA HXd HVq HSq HK HX
      go_wp2_with fail
      go_quiet (fail)
      go_wp2
      go_ret2
      exact HEn.out _
    · have d1 : decide (mo < (n : Int)) = false := decide_eq_false hA
      have hw2 : IntKind.i64.wrap (1 + (lp : Int) + (n : Int)) = 1 + (lp : Int) + (n : Int) := wrap_in (by omega) (by omega)
      by_cases hB : 255 < lp + n
      · have d2 : decide ((256 : Int) < 1 + (lp : Int) + (n : Int)) = true := decide_eq_true (by omega)
        have d3 : (256 : Int) < 1 + (lp : Int) + (n : Int) := by omega
        have HEn := hid fun q => HE5.out (w3.drewN q) (HXd.out q) rfl (.inr hB)
        clear HE5 HFA HXd HVq HSq HK HX
        go_wp2_with fail
        go_quiet ((go_at_call 14; exact Calls.quiet_of_same (HLn.out _)))
        go_wp2
        go_ret2
        exact HEn.out _
      · have d2 : decide ((256 : Int) < 1 + (lp : Int) + (n : Int)) = false := decide_eq_false (by omega)
        have d3 : ¬ (256 : Int) < 1 + (lp : Int) + (n : Int) := by omega
        have HCx := hid fun q => HK.out _ (HVq.out q)
        clear HE5 HXd HK HX
        go_wp2_with fail
        go_quiet ((go_at_call 14; exact Calls.quiet_of_same (HLn.out _)))
        obtain ⟨y0, y1, y2⟩ := HCx.out nq
        have HGo : Hid (∀ W : World, W = (w3.drewN nq).alloc (.cells #[.slice ap lp cp, .slice a n cap] 34) → _) := fun W hW => HFA.out w3.heap.size g1 F1 W (by trivial) (by omega) (by omega) (by rw [hW]; exact (HVq.out nq).alloc (HVq.out nq).size _) (by rw [hW]; exact (HSq.out nq).below ((Below.refl _ _).alloc (Nat.le_refl _) _)) HF.out (by rw [hW]; exact (new_two (w3.drewN nq) _ _ _).1) (by rw [hW]; exact (new_two (w3.drewN nq) _ _ _).2)
        clear HFA HVq HSq HCx HF HS HV HLn HLp
        go_wp2_with fail
        refine (HGo.out _ rfl).mono ?_
        rintro e w5 ⟨q5, m5, rfl, hP⟩
        have HP := hid hP
        clear hP HGo y0 y1 y2 x0 x1 x2
        go_wp2
        go_ret2
        exact HP.out
theorem dstart_no (p : Option Addr) (c : Cf) (j : Jb) (a : Option Addr) (n cap : Nat) (us : List Int) (w : World) (hp : MdAt w p c) (hc : mayB c = true) (hj : JbIn w j) (hu : Reads .i64 w a n cap us) (hm : mayJ c.vocab j.most j.ts = false) :
    Calls Tryz.prog 40 #[.pointer p, .agg (JbV j), .slice a n cap] w fun e w' => GivesE w 1 e w' := (dstart_all p c j a n cap us w hp hc hj hu).mono fun _ _ h => h.no hm
theorem dstart_many (p : Option Addr) (c : Cf) (j : Jb) (a : Option Addr) (n cap : Nat) (us : List Int) (w : World) (hp : MdAt w p c) (hc : mayB c = true) (hj : JbIn w j) (hu : Reads .i64 w a n cap us) (hm : mayJ c.vocab j.most j.ts = true) (hn : j.most < n ∨ 255 < j.lp + n) :
    Calls Tryz.prog 40 #[.pointer p, .agg (JbV j), .slice a n cap] w fun e w' => GivesE w 5 e w' := (dstart_all p c j a n cap us w hp hc hj hu).mono fun _ _ h => h.many hm hn
theorem dstart_arg (p : Option Addr) (c : Cf) (j : Jb) (a : Option Addr) (n cap : Nat) (us : List Int) (w : World) (hp : MdAt w p c) (hc : mayB c = true) (hj : JbIn w j) (hu : Reads .i64 w a n cap us) (hm : mayJ c.vocab j.most j.ts = true) (hn : n ≤ j.most) (hn2 : j.lp + n ≤ 255) (hb : ∃ i, i < n ∧ (us[i]?.getD 0 < 0 ∨ c.vocab ≤ us[i]?.getD 0)) :
    Calls Tryz.prog 40 #[.pointer p, .agg (JbV j), .slice a n cap] w fun e w' => GivesE w 1 e w' := (dstart_all p c j a n cap us w hp hc hj hu).mono fun _ _ h => h.arg hm hn hn2 hb
theorem dstart_yes (p : Option Addr) (c : Cf) (j : Jb) (a : Option Addr) (n cap : Nat) (us : List Int) (w : World) (hp : MdAt w p c) (hc : mayB c = true) (hj : JbIn w j) (hu : Reads .i64 w a n cap us) (hm : mayJ c.vocab j.most j.ts = true) (hn : n ≤ j.most) (hn2 : j.lp + n ≤ 255) (hb : ∀ i, i < n → 0 ≤ us[i]?.getD 0 ∧ us[i]?.getD 0 < c.vocab) :
    Calls Tryz.prog 40 #[.pointer p, .agg (JbV j), .slice a n cap] w fun e w' => GivesS w (mF p) c (0 :: j.ts ++ us) e w' := (dstart_all p c j a n cap us w hp hc hj hu).mono fun _ _ h => h.yes hm hn hn2 hb
end Go.Proofs.YtdomjdfancpbbaaGreat
namespace Go.Proofs.YtdomjdfancpbbaaGreat
open Go.RowKit
set_option linter.unusedVariables false
set_option maxRecDepth 1000000
variable {P : Nat → Prop}

/-- An entry's slice, and when it was used. -/
abbrev Hu := Hd × Int
def qe (qs : List Hu) (i : Nat) : Hu := qs[i]?.getD ((none, 0, 0), 0)
def flatE : List Hu → List Value
  | [] => []
  | q :: qs => .slice q.1.1 q.1.2.1 q.1.2.2 :: .int .i64 q.2 :: flatE qs
theorem flatE_len (qs : List Hu) : (flatE qs).length = qs.length * 2 := by
  induction qs with
  | nil => rfl
  | cons q qs ih => simp [flatE, ih]; omega
theorem flatE_app (ps qs : List Hu) : flatE (ps ++ qs) = flatE ps ++ flatE qs := by
  induction ps with
  | nil => rfl
  | cons p ps ih => simp [flatE, ih]
theorem flatE_0 (qs : List Hu) : ∀ k, k < qs.length → (flatE qs)[k * 2]? = some (.slice (qe qs k).1.1 (qe qs k).1.2.1 (qe qs k).1.2.2) := by
  induction qs with
  | nil => intro k hk; simp at hk
  | cons q qs ih =>
    intro k hk
    cases k with
    | zero => simp [flatE, qe]
    | succ k =>
      have := ih k (by simpa using hk)
      rw [show (k + 1) * 2 = k * 2 + 1 + 1 by omega]
      simpa [flatE, qe] using this
theorem flatE_1 (qs : List Hu) : ∀ k, k < qs.length → (flatE qs)[k * 2 + 1]? = some (.int .i64 (qe qs k).2) := by
  induction qs with
  | nil => intro k hk; simp at hk
  | cons q qs ih =>
    intro k hk
    cases k with
    | zero => simp [flatE, qe]
    | succ k =>
      have := ih k (by simpa using hk)
      rw [show (k + 1) * 2 + 1 = (k * 2 + 1) + 1 + 1 by omega]
      simpa [flatE, qe] using this
theorem flatE_set (qs : List Hu) (t : Int) : ∀ k, k < qs.length → flatE (qs.set k ((qe qs k).1, t)) = (flatE qs).set (k * 2 + 1) (.int .i64 t) := by
  induction qs with
  | nil => intro k hk; simp at hk
  | cons q qs ih =>
    intro k hk
    cases k with
    | zero => simp [flatE, qe]
    | succ k =>
      have := ih k (by simpa using hk)
      rw [show (k + 1) * 2 + 1 = (k * 2 + 1) + 1 + 1 by omega]
      have e : (qe (q :: qs) (k + 1)).1 = (qe qs k).1 := by simp [qe]
      rw [e]
      simp [flatE, this]
/-- The slice's block is one of ints. -/
def BlN (w : World) (a : Option Addr) : Prop := ∀ p, a = some p → ∃ cur fz, w.heap[p.block]? = some (.cells cur 3 fz)
theorem BlN.below {w w' : World} {a : Option Addr} (h : BlN w a) (hb : Below w.heap.size w w') : BlN w' a := fun p hp => by
  obtain ⟨cur, fz, hc⟩ := h p hp
  exact ⟨cur, fz, (hb.block _ (lt_of_block hc)).trans hc⟩
theorem Reads.blk {k : IntKind} {W W' : World} {a : Option Addr} {l c : Nat} {zs : List Int} (hr : Reads k W a l c zs) (hb : ∀ p, a = some p → W'.heap[p.block]? = W.heap[p.block]?) : Reads k W' a l c zs :=
  ⟨hr.size, hr.room, hr.most, hr.bare, fun i hi => by
    obtain ⟨b, off, ha, hc⟩ := hr.cell i hi
    exact ⟨b, off, ha, (World.cell?_of_block (a := ⟨b, off + i, none⟩) (hb ⟨b, off, none⟩ ha)).trans hc⟩⟩
/-- The document's cache in block B; its texts lie in blocks of P. -/
structure RcAtP (P : Nat → Prop) (W : World) (B : Nat) (pg sz tm : Int) (v : Value) (qs : List Hu) (es : List En) : Prop where
  var : W.heap[B]? = some (.cells #[.int .i64 pg, .int .i64 sz, .int .i64 tm, v] 32 (0, 0))
  own : W.ownsRow 0 48 2 v es.length (flatE qs)
  len : qs.length = es.length
  used : ∀ i, i < es.length → (qe qs i).2 = (en es i).2
  rows : ∀ i, i < es.length → Reads .i64 W (qe qs i).1.1 (qe qs i).1.2.1 (qe qs i).1.2.2 (en es i).1
  ints : ∀ i, i < es.length → BlN W (qe qs i).1.1
  short : ∀ i, i < es.length → (en es i).1.length ≤ 1000
  few : es.length ≤ 1000
  off : ∀ i, i < es.length → ∀ p, (qe qs i).1.1 = some p → P p.block
/-- The blocks that its calls may turn. -/
def rcF (B : Nat) (v : Value) (k : Nat) : Prop := k = B ∨ v.ownBlock = some k
theorem RcAtP.below {W W' : World} {B : Nat} {pg sz tm : Int} {v : Value} {qs : List Hu} {es : List En} (h : RcAtP P W B pg sz tm v qs es) (hb : Below W.heap.size W W') : RcAtP P W' B pg sz tm v qs es :=
  ⟨block_bel h.var hb, own_below h.own hb, h.len, h.used, fun i hi => (h.rows i hi).below hb, fun i hi => (h.ints i hi).below hb, h.short, h.few, h.off⟩
theorem RcAtP.cells {W : World} {B : Nat} {pg sz tm : Int} {v : Value} {qs : List Hu} {es : List En} (h : RcAtP P W B pg sz tm v qs es) :
    W.cell? ⟨B, 0, none⟩ = some (.int .i64 pg) ∧ W.cell? ⟨B, 1, none⟩ = some (.int .i64 sz) ∧ W.cell? ⟨B, 2, none⟩ = some (.int .i64 tm) ∧ W.cell? ⟨B, 3, none⟩ = some v := by
  refine ⟨?_, ?_, ?_, ?_⟩ <;> (rw [cell_of_row _ _ _ _ _ _ h.var]; rfl)
/-- Where there is an entry, its list lies in a block of entries. -/
theorem RcAtP.isSome {W : World} {B : Nat} {pg sz tm : Int} {v : Value} {qs : List Hu} {es : List En} (h : RcAtP P W B pg sz tm v qs es) {k : Nat} (hk : k < es.length) :
    ∃ g cap cur, v = .slice (.some ⟨g, 0, .none⟩) es.length cap ∧ W.heap[g]? = .some (.cells cur 48 (0, 0)) ∧ es.length ≤ cap ∧ cap ≤ 9223372036854775807 := by
  rcases id h.own.2 with ⟨_, h0⟩ | ⟨g, cap, cur, hv, _, hg, hnc, hm, _⟩
  · omega
  · exact ⟨g, cap, cur, hv, hg, hnc, by unfold maxLen at hm; omega⟩
theorem RcAtP.isSl {W : World} {B : Nat} {pg sz tm : Int} {v : Value} {qs : List Hu} {es : List En} (h : RcAtP P W B pg sz tm v qs es) : ∃ a cap, v = .slice a es.length cap ∧ es.length ≤ cap ∧ cap ≤ 9223372036854775807 := by
  rcases id h.own.2 with ⟨hv, h0⟩ | ⟨g, cap, cur, hv, _, hg, hnc, hm, _⟩
  · exact ⟨.none, 0, by rw [hv, h0], by omega, by omega⟩
  · exact ⟨_, cap, hv, hnc, by unfold maxLen at hm; omega⟩
theorem RcAtP.at {W : World} {B : Nat} {pg sz tm : Int} {qs : List Hu} {es : List En} {g n cap : Nat} (h : RcAtP P W B pg sz tm (.slice (.some ⟨g, 0, .none⟩) n cap) qs es) {k : Nat} (hk : k < es.length) :
    W.cell? ⟨g, k * 2, none⟩ = some (.slice (qe qs k).1.1 (qe qs k).1.2.1 (qe qs k).1.2.2) ∧ W.cell? ⟨g, k * 2 + 1, none⟩ = some (.int .i64 (en es k).2) := by
  have hl := h.len
  have hn : n = es.length := by
    rcases id h.own.2 with ⟨hv, _⟩ | ⟨g', c', cur, hv, _⟩
    · cases hv
    · cases hv; rfl
  subst hn
  refine ⟨?_, ?_⟩
  · rw [World.ownsRow.cellAt h.own (k * 2) (by omega), flatE_0 qs k (by omega)]
  · rw [World.ownsRow.cellAt h.own (k * 2 + 1) (by omega), flatE_1 qs k (by omega), h.used k hk]

set_option maxHeartbeats 1000000 in
theorem rbegins_q (a : Option Addr) (la ca : Nat) (xs : List Int) (b : Option Addr) (lb cb : Nat) (ys : List Int) (w : World) (ha : Reads .i64 w a la ca xs) (hb : Reads .i64 w b lb cb ys) (h1 : la ≤ 1000) :
    Calls Tryz.prog 34 #[.slice a la ca, .slice b lb cb] w fun e w' => e = .returned (.bool (begB xs ys)) ∧ ∃ m, w' = w.drewN m := by
  have za := ha.size
  have zb := hb.size
  have r1 := ha.room
  have m1 := ha.most
  have r2 := hb.room
  have m2 := hb.most
  have HA : Hid (∀ W : World, (∃ m, W = w.drewN m) → Reads .i64 W a la ca xs) := fun W ⟨m, hm⟩ => by rw [hm]; exact ha.below ⟨rfl, rfl, rfl, Nat.le_refl _, fun _ _ => rfl⟩
  have HB : Hid (∀ W : World, (∃ m, W = w.drewN m) → Reads .i64 W b lb cb ys) := fun W ⟨m, hm⟩ => by rw [hm]; exact hb.below ⟨rfl, rfl, rfl, Nat.le_refl _, fun _ _ => rfl⟩
  have HD : Hid (∀ (W : World) (n : Nat), Hid (∃ m, W = w.drewN m) → ∃ m, W.drewN n = w.drewN m) := fun W n h => by obtain ⟨m, hm⟩ := h.out; exact ⟨_, by rw [hm, World.drewN_drewN]⟩
  by_cases hl : lb < la
  · rw [begB_long (by omega)]
    have q1 : (lb : Int) < (la : Int) := by omega
    clear ha hb HA HB
    go_enter Tryz.func34, Tryz.ntmps34
    go_wp2
    go_ret
    exact ⟨rfl, 0, rfl⟩
  · have q1 : ¬ (lb : Int) < (la : Int) := by omega
    have HNo := hid fun (i : Nat) (hi : i < la) (h : xs[i]?.getD 0 ≠ ys[i]?.getD 0) => begB_no (a := xs) (b := ys) (by omega) h
    have HYe : Hid ((∀ i, i < la → xs[i]?.getD 0 = ys[i]?.getD 0) → begB xs ys = true) := fun h => begB_iff.2 ⟨by omega, fun i hi => h i (by omega)⟩
    clear ha hb
    generalize begB xs ys = bb at *
    go_enter Tryz.func34, Tryz.ntmps34
    go_wp2_with fail
    go_loopw [5] (fun i W => ∃ k : Nat, k ≤ la ∧ i = .int .i64 k ∧ Hid (∀ j, j < k → xs[j]?.getD 0 = ys[j]?.getD 0) ∧ Hid (∃ m, W = w.drewN m)) (fun i _ => la - (intOf i).toNat)
    case atStart => exact ⟨0, Nat.zero_le _, rfl, fun j hj => absurd hj (by omega), 0, rfl⟩
    case round =>
    obtain ⟨k, hk, rfl, HJ, HW⟩ := hrel
    by_cases hlt : k < la
    · obtain ⟨b1, o1, rfl, c1⟩ := (HA.out _ HW.out).cell k hlt
      obtain ⟨b2, o2, rfl, c2⟩ := (HB.out _ HW.out).cell k (by omega)
      have q2 : (k : Int) < (la : Int) := by omega
      have q3 : k < lb := by omega
      by_cases he : xs[k]?.getD 0 = ys[k]?.getD 0
      · have HJ2 : Hid (∀ j, j < k + 1 → xs[j]?.getD 0 = ys[j]?.getD 0) := fun j hj => by
          rcases (by omega : j < k ∨ j = k) with h' | rfl
          · exact HJ.out j h'
          · exact he
        rw [he] at c1
        clear HJ HA HB HNo HYe he
        generalize ys[k]?.getD 0 = y at *
        go_wp2_with fail
        go_quiet (fail)
        go_wp2_with fail
        go_round
        case rel => exact ⟨k + 1, by omega, by go_num, HJ2, HD.out _ _ HW⟩
        case measure => simp [intOf]; omega
      · obtain rfl := HNo.out k hlt he
        clear HJ HA HB HNo HYe
        generalize ys[k]?.getD 0 = y at *
        generalize xs[k]?.getD 0 = x at *
        have he2 : (x == y) = false := by simp [he]
        have he3 : (x != y) = true := by simp [he]
        go_wp2_with fail
        go_quiet (fail)
        go_wp2
        go_ret
        exact ⟨rfl, HD.out _ _ HW⟩
    · obtain rfl : k = la := by omega
      have hbb := HYe.out HJ.out
      subst hbb
      clear HJ HA HB HNo HYe
      go_wp2
      go_ret
      exact ⟨rfl, HW.out⟩
theorem rbegins_any (a : Option Addr) (la ca : Nat) (xs : List Int) (b : Option Addr) (lb cb : Nat) (ys : List Int) (w : World) (ha : Reads .i64 w a la ca xs) (hb : Reads .i64 w b lb cb ys) (h1 : la ≤ 1000) :
    Calls Tryz.prog 34 #[.slice a la ca, .slice b lb cb] w fun e w' => e = .returned (.bool (begB xs ys)) ∧ Below w.heap.size w w' :=
  (rbegins_q a la ca xs b lb cb ys w ha hb h1).mono fun e w' ⟨h1, m, h2⟩ => ⟨h1, by rw [h2]; exact ⟨rfl, rfl, rfl, Nat.le_refl _, fun _ _ => rfl⟩⟩
end Go.Proofs.YtdomjdfancpbbaaGreat
namespace Go.Proofs.YtdomjdfancpbbaaGreat
open Go.RowKit
set_option linter.unusedVariables false
set_option maxRecDepth 1000000

/-- The configuration of the statements' model. -/
def c14 : Cf := ⟨9, 4, 2, 1, 4, 4⟩
theorem may14 : mayB c14 = true := by decide
theorem small14_any (w : World) : Calls Tryz.prog 7 #[] w fun e w' => ∃ g, e = .returned (.pointer (some ⟨g, 0, none⟩)) ∧ w.heap.size ≤ g ∧ g < w'.heap.size ∧ MdAt w' (some ⟨g, 0, none⟩) c14 ∧ Below w.heap.size w w' := by
  have hN := new_yes c14 w may14
  unfold CfV c14 at hN
  simp only at hN
  go_enter Tryz.func7, Tryz.ntmps7
  go_wp2_with fail
  refine hN.mono ?_
  rintro e w1 ⟨g, rfl, hg, hM, hb⟩
  have HM : Hid (MdAt w1 (some ⟨g, 0, none⟩) c14) := .inr ⟨g, rfl, hM⟩
  have HL : Hid (g < w1.heap.size) := lt_of_block hM
  have HG := hid hg
  have HB := hid hb
  clear hN hM hb hg
  go_wp2
  go_ret
  exact ⟨g, rfl, HG.out, HL.out, HM.out, HB.out⟩
/-- A token of the statements' texts. -/
def tk4 (t : Int) : Int := (t.tmod 4 + 4) % 4
theorem tk4_bd (t : Int) : 0 ≤ tk4 t ∧ tk4 t < 4 := by unfold tk4; omega
theorem tmod4_bd (t : Int) : -3 ≤ t.tmod 4 ∧ t.tmod 4 ≤ 3 := by
  have h1 := Int.tmod_lt_of_pos t (by decide : (0 : Int) < 4)
  have h2 : -4 < t.tmod 4 := by
    have := Int.tmod_lt_of_pos (-t) (by decide : (0 : Int) < 4)
    rw [Int.neg_tmod] at this
    omega
  omega
/-- A step's text behind the token 0. -/
def tyL (xs : List Int) : List Int := (xs.take 11).map tk4
def txL (xs : List Int) : List Int := 0 :: tyL xs
theorem tyL_len (xs : List Int) : (tyL xs).length = min 11 xs.length := by simp [tyL]
theorem txL_len (xs : List Int) : 1 ≤ (txL xs).length ∧ (txL xs).length ≤ 12 := by simp [txL, tyL_len]; omega
theorem tyL_mem {xs : List Int} {x : Int} (h : x ∈ tyL xs) : 0 ≤ x ∧ x < 4 := by
  obtain ⟨t, _, rfl⟩ := List.mem_map.1 h
  exact tk4_bd t
theorem tyL_bd (xs : List Int) : ∀ i, i < (tyL xs).length → 0 ≤ (tyL xs)[i]?.getD 0 ∧ (tyL xs)[i]?.getD 0 < 4 := by
  intro i hi
  rw [List.getElem?_eq_getElem hi]
  exact tyL_mem (List.getElem_mem hi)
theorem state14_any (pm : Option Addr) (a : Option Addr) (n cap : Nat) (ts : List Int) (w : World) (hp : MdAt w pm c14) (ha : Reads .i64 w a n cap ts) (hn : n ≤ 255) (hb : ∀ i, i < n → 0 ≤ ts[i]?.getD 0 ∧ ts[i]?.getD 0 < 4) :
    Calls Tryz.prog 19 #[.pointer pm, .slice a n cap] w fun e w' => ∃ g F, e = .returned (.pointer (some ⟨g, 0, none⟩)) ∧ StAt w' (some ⟨g, 0, none⟩) c14 (0 :: ts) F ∧ (∀ k, F k → mF pm k ∨ w.heap.size ≤ k ∨ NotInt w k) ∧ Below w.heap.size w w' := by
  have hS := dstart_yes pm c14 ⟨0, a, n, cap, ts, 0⟩ none 0 0 [] w hp may14 ha (Reads.nil _ _) (mayJ_iff.2 ⟨by simp, by simp, by rw [ha.size]; exact hn, by rw [ha.size]; exact hb⟩) (by simp) (by simpa using hn) (fun i hi => absurd hi (by omega))
  unfold JbV at hS
  simp only [List.append_nil] at hS
  clear ha hb hp
  go_enter Tryz.func19, Tryz.ntmps19
  go_wp2_with fail
  refine hS.mono ?_
  rintro e w1 ⟨g, F, rfl, hA, hF, hb⟩
  have HA := hid hA
  have HF := hid hF
  have HB := hid hb
  clear hS hA hF hb
  go_wp2
  go_ret
  exact ⟨g, F, rfl, HA.out, HF.out, HB.out⟩
theorem short14_any (a : Option Addr) (len cap : Nat) (w : World) (r1 : len ≤ cap) (m1 : cap ≤ 9223372036854775807) :
    Calls Tryz.prog 10 #[.slice a len cap] w fun e w' => e = .returned (.slice a (min len 40) cap) ∧ w = w' := by
  obtain ⟨m, hm⟩ : ∃ m, min len 40 = m := ⟨_, rfl⟩
  have hA : (if (40 : Int) < (len : Int) then 40 else (len : Int)) = (m : Int) := by split <;> omega
  have hB : (if (len : Int) < (40 : Int) then (len : Int) else 40) = (m : Int) := by split <;> omega
  have hC : (if (40 : Nat) < len then (40 : Int) else (len : Int)) = (m : Int) := by split <;> omega
  have hD : (if len < 40 then (len : Int) else (40 : Int)) = (m : Int) := by split <;> omega
  have hmc : m ≤ cap := by omega
  rw [hm]
  clear hm
  go_enter Tryz.func10, Tryz.ntmps10
  go_wp2
  go_ret
  exact ⟨rfl, rfl⟩
theorem own_oneB (w : World) (x : Int) (t : TypeId) {B base : Nat} (hB : w.heap.size = B) (hb : base ≤ B) : (w.alloc (.cells #[.int .i64 x] t)).ownsRow base t 1 (.slice (some ⟨B, 0, none⟩) 1 1) 1 [.int .i64 x] := by
  subst hB
  exact World.ownsRow_lit (base := base) (e := t) (size := 1) w #[.int .i64 x] 1 hb (by unfold maxLen; omega) (by simp)
set_option maxHeartbeats 2000000 in
theorem text14_any (kd : Int) (ta : Option Addr) (tl tc : Nat) (xs : List Int) (w : World) (h : Reads .i64 w ta tl tc xs) :
    Calls Tryz.prog 11 #[.agg #[.int .u8 kd, .slice ta tl tc]] w fun e w' => ∃ g cap, e = .returned (.slice (some ⟨g, 0, none⟩) (txL xs).length cap) ∧ OwnK 3 w.heap.size g (txL xs).length cap (txL xs) w' ∧ Below w.heap.size w w' := by
  obtain ⟨i0, hi, hz0, hz1, hz2⟩ := info_parts Tryz.info3
  have r1 := h.room
  have m1 := h.most
  have zz := h.size
  obtain ⟨M, hM⟩ : ∃ M, min tl 11 = M := ⟨_, rfl⟩
  have hA : (if (11 : Int) < (tl : Int) then 11 else (tl : Int)) = (M : Int) := by split <;> omega
  have hB : (if (tl : Int) < (11 : Int) then (tl : Int) else 11) = (M : Int) := by split <;> omega
  have hC : (if (11 : Nat) < tl then (11 : Int) else (tl : Int)) = (M : Int) := by split <;> omega
  have hD : (if tl < 11 then (tl : Int) else (11 : Int)) = (M : Int) := by split <;> omega
  have hMc : M ≤ tc := by omega
  have hMt : M ≤ tl := by omega
  have hM11 : M ≤ 11 := by omega
  have HY : Hid ((tyL xs).length = M) := by unfold Hid; rw [tyL_len, zz]; omega
  have HYk : Hid (∀ k, k < M → (tyL xs).take (k + 1) = (tyL xs).take k ++ [tk4 (xs[k]?.getD 0)]) := by
    intro k hk
    rw [take_snoc (by rw [HY.out]; exact hk)]
    congr 2
    unfold tyL
    rw [List.getElem?_map, List.getElem?_take_of_lt (by omega), List.getElem?_eq_getElem (by omega)]
    rfl
  obtain ⟨wA, hwA⟩ : ∃ wA, wA = (w.alloc (.cells #[.int .u8 kd, .slice ta tl tc] 36)).alloc (.cells #[.int .i64 0] 3) := ⟨_, rfl⟩
  have HB0 : Hid (Below w.heap.size w wA) := by unfold Hid; rw [hwA]; exact ((Below.refl _ _).alloc (Nat.le_refl _) _).alloc (by simp) _
  have HO0 : Hid (wA.ownsRow w.heap.size 3 1 (.slice (some ⟨w.heap.size + 1, 0, none⟩) 1 1) 1 [.int .i64 0]) := by
    unfold Hid; rw [hwA]; exact own_oneB _ 0 3 (World.size_alloc _ _) (by omega)
  have HR := hid fun (W : World) (hb : Below w.heap.size w W) => h.below hb
  have HE : Hid ((0 : Int) :: (tyL xs).take M = txL xs) := by unfold Hid txL; rw [← HY.out, List.take_length]
  clear h zz hM HY
  generalize tyL xs = ys at *
  generalize txL xs = zs at *
  go_enter Tryz.func11, Tryz.ntmps11
  go_wp2_with fail
  rw [← hwA]
  clear hwA
  go_loopw [3, 15] (fun v i W => ∃ k : Nat, k ≤ M ∧ i = .int .i64 k ∧ Hid (W.ownsRow w.heap.size 3 1 v (k + 1) (((0 : Int) :: ys.take k).map (Value.int .i64))) ∧ Hid (Below w.heap.size w W)) (fun _ i _ => M - (intOf i).toNat)
  case atStart => exact ⟨0, Nat.zero_le _, rfl, HO0, HB0⟩
  case round =>
  obtain ⟨k, hk, rfl, HO, HW⟩ := hrel
  rename World => wr
  clear HO0 HB0
  by_cases hlt : k < M
  · obtain ⟨b1, o1, rfl, ck⟩ := (HR.out _ HW.out).cell k (by omega)
    have q1 : (k : Int) < (M : Int) := by omega
    have HYk2 := hid (HYk.out k hlt)
    generalize xs[k]?.getD 0 = t at *
    obtain ⟨x, hx⟩ : ∃ x, tk4 t = x := ⟨_, rfl⟩
    have hx1 : (t.tmod 4 + 4).tmod 4 = x := by
      have := tmod4_bd t
      rw [Int.tmod_eq_emod_of_nonneg (by omega), ← hx]
      rfl
    have hx2 : (t.tmod 4 + 4) % 4 = x := hx
    have hb4 := tmod4_bd t
    have hxb := tk4_bd t
    rw [hx] at HYk2 hxb
    have HAl : Hid (Below wr.heap.size wr (wr.alloc (.cells #[.int .i64 x] 3))) := (Below.refl _ _).alloc (Nat.le_refl _) _
    have HSz : Hid (w.heap.size ≤ (wr.alloc (.cells #[.int .i64 x] 3)).heap.size) := Nat.le_trans HW.out.size HAl.out.size
    clear HR HYk HE hx
    go_wp2_with (at_builtin; refine append_any _ rfl (.tmp 19) (.tmp 24) 34 rfl w.heap.size 3 i0 (.int .i64 0) 8 Tryz.underlying34 hi hz0 hz1 hz2 rfl .i64 _ (k + 1) ((0 : Int) :: ys.take k) rfl (own_below HO.out HAl.out) _ 1 1 [x] rfl (Reads.one _ _ _) (by omega) (by omega) HSz.out ?_; intro v3 w3 hO3 hb3)
    have HO3 : Hid (w3.ownsRow w.heap.size 3 1 v3 (k + 1 + 1) (((0 : Int) :: ys.take (k + 1)).map (Value.int .i64))) := by unfold Hid; rw [HYk2.out]; exact hO3
    have HW3 : Hid (Below w.heap.size w w3) := (HW.out.trans (HAl.out.mono HW.out.size)).trans hb3
    clear hO3 hb3 HO HW HAl HSz HYk2 ck hx1 hx2 hb4 hxb
    go_wp2_with fail
    go_round
    case rel => exact ⟨k + 1, by omega, by go_num, HO3, HW3⟩
    case measure => simp [intOf]; omega
  · obtain rfl : k = M := by omega
    have hO := HO.out
    rw [HE.out] at hO
    have hlen : zs.length = k + 1 := by have := hO.1; simpa using this
    rcases id hO.2 with ⟨_, h0⟩ | ⟨g, cap, cur, hv, _⟩
    · omega
    · subst hv
      have HO2 : Hid (OwnK 3 w.heap.size g zs.length cap zs wr) := by unfold Hid OwnK; rw [hlen]; exact hO
      have HEq : Hid (Ending.returned (.slice (some ⟨g, 0, none⟩) (k + 1) cap) = .returned (.slice (some ⟨g, 0, none⟩) zs.length cap)) := by unfold Hid; rw [hlen]
      clear hO HO HE HR HYk hlen
      go_wp2
      go_ret
      exact ⟨_, _, HEq.out, HO2.out, HW.out⟩
end Go.Proofs.YtdomjdfancpbbaaGreat
namespace Go.Proofs.YtdomjdfancpbbaaGreat
open Go.RowKit
set_option linter.unusedVariables false
set_option maxRecDepth 1000000

/-- Blocks of a state's types (but ints) stay. -/
def KpL (W W' : World) : Prop := ∀ (k : Nat) (cur : Array Value) (t : TypeId) (fz : Nat × Nat), W.heap[k]? = some (.cells cur t fz) → (t = 2 ∨ t = 99 ∨ t = 130 ∨ t = 127 ∨ t = 101 ∨ t = 86) → W'.heap[k]? = some (.cells cur t fz)
theorem KpL.refl (W : World) : KpL W W := fun _ _ _ _ h _ => h
theorem KpL.trans {a b c : World} (h : KpL a b) (k : KpL b c) : KpL a c := fun i cur t fz h1 h2 => k i cur t fz (h i cur t fz h1 h2) h2
theorem KpL.of {W W' : World} (h : Below W.heap.size W W') : KpL W W' := fun k cur t fz h1 _ => (h.block k (lt_of_block h1)).trans h1
theorem KpL.fb {F : Nat → Prop} {W W' : World} (h : Fb F W W') (hF : ∀ k cur t fz, F k → W.heap[k]? = some (.cells cur t fz) → ¬ (t = 2 ∨ t = 99 ∨ t = 130 ∨ t = 127 ∨ t = 101 ∨ t = 86)) : KpL W W' := fun k cur t fz h1 h2 => h.one h1 fun hf => hF k cur t fz hf h1 h2
theorem Reads.keepL {W W' : World} {a : Option Addr} {l c : Nat} {zs : List Int} (hr : Reads .i64 W a l c zs) (h5 : BlI W a) (hk : KpL W W') : Reads .i64 W' a l c zs ∧ BlI W' a := by
  have key : ∀ p, a = some p → W'.heap[p.block]? = W.heap[p.block]? := by
    intro p hp
    obtain ⟨cur, fz, hc⟩ := h5 p hp
    rw [hc]
    exact hk _ _ _ _ hc (.inl rfl)
  refine ⟨hr.blk key, fun p hp => ?_⟩
  obtain ⟨cur, fz, hc⟩ := h5 p hp
  exact ⟨cur, fz, (key p hp).trans hc⟩
theorem TbH.keepL {W W' : World} {h : Hd} {ls : List (List Int)} (k : TbH W h ls) (hk : KpL W W') : TbH W' h ls := by
  obtain ⟨h1, hs, h2, h3, h4⟩ := k
  have key : ∀ p, h.1 = some p → W'.heap[p.block]? = W.heap[p.block]? := by
    intro p hp
    obtain ⟨cur, fz, hc⟩ := h3 p hp
    rw [hc]
    exact hk _ _ _ _ hc (.inr (.inl rfl))
  refine ⟨h1, hs, ⟨⟨h2.rd.size, h2.rd.room, h2.rd.most, h2.rd.bare, fun i hi => ?_⟩, fun i hi => (Reads.keepL (h2.rows i hi) (h4 i hi) hk).1, h2.short⟩, fun p hp => ?_, fun i hi => (Reads.keepL (h2.rows i hi) (h4 i hi) hk).2⟩
  · obtain ⟨b, off, ha, hc⟩ := h2.rd.cell i hi
    exact ⟨b, off, ha, (World.cell?_of_block (a := ⟨b, off + i, none⟩) (key ⟨b, off, none⟩ ha)).trans hc⟩
  · obtain ⟨cur, fz, hc⟩ := h3 p hp
    exact ⟨cur, fz, (key p hp).trans hc⟩
theorem MemAt.keepL {W W' : World} {p : Option Addr} {M : List KV} (h : MemAt W p M) (hk : KpL W W') : MemAt W' p M := by
  rcases h with h | ⟨B, g, ps, hp, h⟩
  · exact .inl h
  · obtain ⟨cur, hc⟩ := h.own.blk
    exact .inr ⟨B, g, ps, hp, hk _ _ _ _ h.var (by decide), own_same h.own ((hk _ _ _ _ hc (by decide)).trans hc.symm), fun i hi => ⟨(h.rows i hi).1.keepL hk, (h.rows i hi).2.keepL hk⟩⟩
theorem MdAt.keepL {W W' : World} {p : Option Addr} {c : Cf} (h : MdAt W p c) (hk : KpL W W') : MdAt W' p c := by
  rcases h with h | ⟨g, hp, hg⟩
  · exact .inl h
  · exact .inr ⟨g, hp, hk _ _ _ _ hg (by decide)⟩
theorem StIn.keepL {W W' : World} {g : Nat} {pm ta : Option Addr} {tc : Nat} {ha : Option Addr} {hc : Nat} {pq : Option Addr} {c : Cf} {ts : List Int} (h : StIn W g pm ta tc ha hc pq c ts) (hk : KpL W W') (hb : ∀ x, mF ta x → W'.heap[x]? = W.heap[x]?) : StIn W' g pm ta tc ha hc pq c ts :=
  ⟨hk _ _ _ _ h.var (by decide), h.md.keepL hk, h.tk.same hb, h.mks.keepL hk, h.mem.keepL hk, fun p hp => by
    obtain ⟨cur, fz, hc⟩ := h.bl p hp
    exact ⟨cur, fz, (hb _ ⟨p, hp, rfl⟩).trans hc⟩⟩
/-- A state at a pointer, its tokens in a block ta of ints. -/
def StT (W : World) (q : Option Addr) (c : Cf) (ts : List Int) (ta : Option Addr) : Prop := ∃ (g : Nat) (pm : Option Addr) (tc : Nat) (ha : Option Addr) (hc : Nat) (pq : Option Addr), q = some ⟨g, 0, none⟩ ∧ StIn W g pm ta tc ha hc pq c ts ∧ BlN W ta ∧ 1 ≤ ts.length ∧ ts.length ≤ 256
theorem StT.keep {W W' : World} {q : Option Addr} {c : Cf} {ts : List Int} {ta : Option Addr} (h : StT W q c ts ta) (hk : KpL W W') (hb : ∀ x, mF ta x → W'.heap[x]? = W.heap[x]?) : StT W' q c ts ta := by
  obtain ⟨g, pm, tc, ha, hc, pq, h1, h2, h3, h4⟩ := h
  refine ⟨g, pm, tc, ha, hc, pq, h1, h2.keepL hk hb, fun p hp => ?_, h4⟩
  obtain ⟨cur, fz, hc⟩ := h3 p hp
  exact ⟨cur, fz, (hb _ ⟨p, hp, rfl⟩).trans hc⟩
/-- A state at a pointer. -/
def StD (W : World) (q : Option Addr) (c : Cf) (ts : List Int) : Prop := ∃ ta, StT W q c ts ta
theorem StD.keep {W W' : World} {q : Option Addr} {c : Cf} {ts : List Int} (h : StD W q c ts) (hk : KpL W W') (hi : KpI W W') : StD W' q c ts := by
  obtain ⟨ta, h⟩ := h
  refine ⟨ta, h.keep hk ?_⟩
  rintro x ⟨a, rfl, rfl⟩
  obtain ⟨g, pm, tc, ha, hc, pq, h1, h2, h3, h4⟩ := h
  obtain ⟨cur, fz, hc⟩ := h3 a rfl
  rw [hc]
  exact hi _ _ _ hc
theorem StD.below {W W' : World} {q : Option Addr} {c : Cf} {ts : List Int} (h : StD W q c ts) (hb : Below W.heap.size W W') : StD W' q c ts := h.keep (KpL.of hb) (KpI.of hb)
theorem StD.at {W : World} {q : Option Addr} {c : Cf} {ts : List Int} (h : StD W q c ts) : ∃ F, StAt W q c ts F := by
  obtain ⟨ta, g, pm, tc, ha, hc, pq, rfl, h2, h3, h4, h5⟩ := h
  exact ⟨_, h2.at h4 h5⟩
end Go.Proofs.YtdomjdfancpbbaaGreat
namespace Go.Proofs.YtdomjdfancpbbaaGreat
open Go.RowKit
set_option linter.unusedVariables false
set_option maxRecDepth 1000000

/-- A block of the document's cache, or of a list of lists: no cache of package kv lies there. -/
def DocB (W : World) (k : Nat) : Prop := ∃ cur t fz, W.heap[k]? = some (.cells cur t fz) ∧ (t = 32 ∨ t = 48 ∨ t = 34)
theorem DocB.below {W W' : World} {k : Nat} (h : DocB W k) (hb : Below W.heap.size W W') : DocB W' k := by
  obtain ⟨cur, t, fz, h1, h2⟩ := h
  exact ⟨cur, t, fz, (hb.block k (lt_of_block h1)).trans h1, h2⟩
/-- What is found: a state of that beginning, or none. -/
def FndS (W : World) (q : Option Addr) (c : Cf) (ts : List Int) (n : Int) : Prop := (n = 0 ∧ q = none) ∨ (0 < n ∧ StD W q c (ts.take n.toNat))
end Go.Proofs.YtdomjdfancpbbaaGreat
namespace Go.Proofs.YtdomjdfancpbbaaGreat
open Go.RowKit
set_option linter.unusedVariables false
set_option maxRecDepth 1000000

/-- How often a page is held: 0 of none. -/
def heldZ (hs : List Int) (n : Int) : Int := if 0 ≤ n ∧ n < hs.length then hs[n.toNat]?.getD 0 else 0
/-- The first free page, or how many there are. -/
def takeI (hs : List Int) : Nat := hs.findIdx (· == 0)
def takeN (hs : List Int) : Int := if takeI hs < hs.length then (takeI hs : Int) else 0
def takeE (hs : List Int) : Int := if takeI hs < hs.length then 0 else 9
def takeH (hs : List Int) : List Int := if takeI hs < hs.length then hs.set (takeI hs) 1 else hs
def holdE (hs : List Int) (n : Int) : Int := if heldZ hs n = 0 then 1 else if 2147483647 ≤ heldZ hs n then 5 else 0
def holdH (hs : List Int) (n : Int) : List Int := if heldZ hs n = 0 ∨ 2147483647 ≤ heldZ hs n then hs else hs.set n.toNat (heldZ hs n + 1)
def dropE (hs : List Int) (n : Int) : Int := if heldZ hs n = 0 then 1 else 0
def dropH (hs : List Int) (n : Int) : List Int := if heldZ hs n = 0 then hs else hs.set n.toNat (heldZ hs n - 1)
def dropB (hs : List Int) (n : Int) : Bool := decide (heldZ hs n = 1)
/-- Of the first k pages those that are held. -/
def usedK (hs : List Int) : Nat → List Int
  | 0 => []
  | k + 1 => if 0 < hs[k]?.getD 0 then usedK hs k ++ [(k : Int)] else usedK hs k
def usedL (hs : List Int) : List Int := usedK hs hs.length
/-- Each is held from 0 to 2^31 - 1 times. -/
def OkP (hs : List Int) : Prop := 1 ≤ hs.length ∧ hs.length ≤ 256 ∧ ∀ i, i < hs.length → 0 ≤ hs[i]?.getD 0 ∧ hs[i]?.getD 0 ≤ 2147483647

theorem usedK_len (hs : List Int) (k : Nat) : (usedK hs k).length ≤ k := by
  induction k with
  | zero => simp [usedK]
  | succ k ih =>
    simp only [usedK]
    split
    · simp; exact ih
    · omega
theorem takeI_le (hs : List Int) : takeI hs ≤ hs.length := List.findIdx_le_length
theorem takeI_at {hs : List Int} {i : Nat} (hi : i < hs.length) (h0 : hs[i]?.getD 0 = 0) (hn : ∀ j, j < i → hs[j]?.getD 0 ≠ 0) : takeI hs = i := by
  unfold takeI
  rw [List.findIdx_eq hi]
  rw [List.getElem?_eq_getElem hi] at h0
  refine ⟨by simpa using h0, fun j hj => ?_⟩
  have := hn j hj
  rw [List.getElem?_eq_getElem (by omega)] at this
  simpa using this
theorem takeI_none {hs : List Int} (hn : ∀ j, j < hs.length → hs[j]?.getD 0 ≠ 0) : takeI hs = hs.length := by
  unfold takeI
  rw [List.findIdx_eq_length]
  intro x hx
  obtain ⟨j, hj, rfl⟩ := List.getElem_of_mem hx
  have := hn j hj
  rw [List.getElem?_eq_getElem hj] at this
  simpa using this
theorem takeI_free {hs : List Int} (h : takeI hs < hs.length) : hs[takeI hs]?.getD 0 = 0 := by
  rw [List.getElem?_eq_getElem h]
  exact eq_of_beq (List.findIdx_getElem (p := fun x : Int => x == 0) (xs := hs) (w := h))
theorem takeH_len (hs : List Int) : (takeH hs).length = hs.length := by unfold takeH; split <;> simp
theorem holdH_len (hs : List Int) (n : Int) : (holdH hs n).length = hs.length := by unfold holdH; split <;> simp
theorem dropH_len (hs : List Int) (n : Int) : (dropH hs n).length = hs.length := by unfold dropH; split <;> simp
theorem heldZ_in {hs : List Int} {n : Int} (h : heldZ hs n ≠ 0) : 0 ≤ n ∧ n < hs.length := by
  unfold heldZ at h
  split at h
  · assumption
  · exact absurd rfl h
theorem heldZ_at {hs : List Int} {n : Int} (h0 : 0 ≤ n) (h1 : n < hs.length) : heldZ hs n = hs[n.toNat]?.getD 0 := by unfold heldZ; rw [if_pos ⟨h0, h1⟩]
theorem heldZ_out {hs : List Int} {n : Int} (h : n < 0 ∨ (hs.length : Int) ≤ n) : heldZ hs n = 0 := by unfold heldZ; rw [if_neg (by omega)]
theorem OkP.held {hs : List Int} (h : OkP hs) (n : Int) : 0 ≤ heldZ hs n ∧ heldZ hs n ≤ 2147483647 := by
  by_cases hn : 0 ≤ n ∧ n < hs.length
  · rw [heldZ_at hn.1 hn.2]; exact h.2.2 _ (by omega)
  · rw [heldZ_out (by omega)]; omega
theorem set_bd {hs : List Int} {k : Nat} {v lo hi : Int} (h : ∀ i, i < hs.length → lo ≤ hs[i]?.getD 0 ∧ hs[i]?.getD 0 ≤ hi) (h0 : lo ≤ v) (h1 : v ≤ hi) : ∀ i, i < (hs.set k v).length → lo ≤ (hs.set k v)[i]?.getD 0 ∧ (hs.set k v)[i]?.getD 0 ≤ hi := by
  intro i hi'
  rw [List.length_set] at hi'
  rw [List.getElem?_set]
  by_cases e : k = i
  · subst e
    rw [if_pos rfl, if_pos hi']
    exact ⟨h0, h1⟩
  · rw [if_neg e]
    exact h i hi'
theorem OkP.take {hs : List Int} (h : OkP hs) : OkP (takeH hs) := by
  refine ⟨by rw [takeH_len]; exact h.1, by rw [takeH_len]; exact h.2.1, ?_⟩
  unfold takeH
  split
  · exact set_bd h.2.2 (by omega) (by omega)
  · exact h.2.2
theorem OkP.hold {hs : List Int} (h : OkP hs) (n : Int) : OkP (holdH hs n) := by
  refine ⟨by rw [holdH_len]; exact h.1, by rw [holdH_len]; exact h.2.1, ?_⟩
  have := h.held n
  unfold holdH
  split
  · exact h.2.2
  · exact set_bd h.2.2 (by omega) (by omega)
theorem OkP.drop {hs : List Int} (h : OkP hs) (n : Int) : OkP (dropH hs n) := by
  refine ⟨by rw [dropH_len]; exact h.1, by rw [dropH_len]; exact h.2.1, ?_⟩
  have := h.held n
  unfold dropH
  split
  · exact h.2.2
  · exact set_bd h.2.2 (by omega) (by omega)
theorem okp_new {n : Nat} (h0 : 1 ≤ n) (h1 : n ≤ 256) : OkP (List.replicate n 0) := by
  refine ⟨by simpa using h0, by simpa using h1, fun i hi => ?_⟩
  rw [List.length_replicate] at hi
  rw [List.getElem?_replicate, if_pos hi]
  simp
end Go.Proofs.YtdomjdfancpbbaaGreat
namespace Go.Proofs.YtdomjdfancpbbaaGreat
open Go.RowKit
set_option linter.unusedVariables false
set_option maxRecDepth 1000000

theorem fb_set1 (w : World) (b k : Nat) (u : Value) : Fb (at1 b) w (w.setCell ⟨b, k, none⟩ u) := Fb.set (F := at1 b) (p := ⟨b, k, none⟩) rfl u
theorem make_intsI (w : World) (m : Nat) (hm : m ≤ 1001) : (Instr.makeSlice 34 (.int .i64 (m : Int)) (.int .i64 (m : Int))).run Tryz.prog w = .ok (.slice (some ⟨w.heap.size, 0, none⟩) m m) (w.alloc (.cells (madeCells #[.int .i64 0] m) 3)) := by
  obtain ⟨i0, hi, hz0, hz1, hz2⟩ := info_parts Tryz.info3
  have := run_make (P := Tryz.prog) w 34 3 i0 (.int .i64 0) Tryz.underlying34 hi hz0 .i64 .i64 (m : Int) (m : Int) (by omega) (Int.le_refl _) (by rw [hz2]; omega) (by omega)
  rw [this, hz1, Int.toNat_natCast, Nat.mul_one]
  rfl
end Go.Proofs.YtdomjdfancpbbaaGreat
