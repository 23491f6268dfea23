/-
  De3: Contracts of package decode: Feed, Next, Cut of a state.
  De4: Contracts: slices.Grow of nothing, slices.Concat of two lists of ints.
  De5: Contracts of package decode: feedAll, Start.
  DeCons: Contracts of package decode: follows, From, Ref.
-/
import Derived.Test.YtahpilgbabjebaaGreatPk15
import Derived.Test.YtahpilgbabjebaaGreatPk14
import Derived.Lib.AppendZeros
namespace Go.Proofs.YtahpilgbabjebaaGreat
open Go.RowKit
set_option linter.unusedVariables false
set_option maxRecDepth 1000000

theorem dlen_at {W : World} {g : Nat} {pm ta : Option Addr} {tc : Nat} {ha : Option Addr} {hc : Nat} {pq : Option Addr} {c : Cf} {ts : List Int} (h : StIn W g pm ta tc ha hc pq c ts) :
    Calls Tryz.prog 18 #[.pointer (some ⟨g, 0, none⟩)] W fun e w' => e = .returned (.int .i64 ts.length) ∧ Below W.heap.size W w' :=
  (dlen_in h).mono fun e w' ⟨h1, h2⟩ => ⟨h1, by rw [h2]; exact Below.refl _ _⟩
set_option maxHeartbeats 1000000 in
theorem dfeed_yes {F : Nat → Prop} (p : Option Addr) (c : Cf) (ts : List Int) (t : Int) (w : World) (hs : StAt w p c ts F) (hc : mayB c = true) (h0 : 0 ≤ t) (h1 : t < c.vocab) (hl : ts.length < 256) :
    Calls Tryz.prog 19 #[.pointer p, .int .i64 t] w fun e w' => GivesS w F c (ts ++ [t]) e w' := by
  have hone := hs.one
  obtain ⟨g, pm, ta, tc, ha, hc', pq, rfl, h, hF⟩ := hs.get
  have HLn := hid fun (W : World) (hb : Below w.heap.size w W) => dlen_at (h.below hb)
  have HC := hid fun (W : World) (hb : Below w.heap.size w W) => config_any pm c W (h.md.below hb)
  have HT := hid fun (W : World) => istoken_any c t W
  rw [tokB_yes h0 h1] at HT
  have HWi := hid fun (W : World) (hb : Below w.heap.size w W) => dwith_any (h.below hb) hc (by omega) t
  have HK := hid fun (W : World) (hb : Below w.heap.size w W) => (h.below hb).cells
  have HE : Hid (∀ W W' e, Below w.heap.size w W → GivesW W pm c (ts ++ [t]) e W' → ∃ g5, e = .returned (.pointer (some ⟨g5, 0, none⟩)) ∧ GivesS w F c (ts ++ [t]) (.returned (.tuple #[.pointer (some ⟨g5, 0, none⟩), .int .i64 0])) W') := by
    rintro W W' e hb ⟨g5, t5, k5, a5, c5, q5, rfl, hS, hk, hb5⟩
    have hbb := hb.trans (hb5.mono hb.size)
    exact ⟨g5, rfl, g5, _, rfl, hS.at (by simp) (by simp; omega), stF_of hbb (fun k hk' => .inr (Nat.le_trans hb.size (hk k hk'))), hbb⟩
  generalize hN : ts.length = n at *
  have HH := hid hN
  clear hs h hF hc h0 h1 hN HH
  have z1 : ((n : Int) == 0) = false := by simp; omega
  have z2 : ((n : Int) == 256) = false := by simp; omega
  have z3 : (n : Int) ≠ 0 := by omega
  have z4 : (n : Int) ≠ 256 := by omega
  go_enter Tryz.func19, Tryz.ntmps19
  go_wp2_with fail
  refine (HLn.out w (Below.refl _ _)).mono ?_
  rintro e w1 ⟨rfl, hb⟩
  have HV := hid hb
  obtain ⟨c0, c1, c2, c3⟩ := HK.out _ hb
  clear hb
  go_wp2_with fail
  refine (HC.out _ HV.out).mono ?_
  rintro e w2 ⟨rfl, hb⟩
  replace HV := hid (HV.out.trans (hb.mono HV.out.size))
  clear c0 c1 c2 c3 hb HK HC
  go_wp2_with fail
  refine (HT.out _).mono ?_
  rintro e w3 ⟨rfl, hb⟩
  replace HV := hid (HV.out.trans (hb.mono HV.out.size))
  clear hb HT
  go_wp2_with fail
  refine (HLn.out _ HV.out).mono ?_
  rintro e w4 ⟨rfl, hb⟩
  replace HV := hid (HV.out.trans (hb.mono HV.out.size))
  clear hb HLn
  go_wp2_with fail
  refine (HWi.out _ HV.out).mono ?_
  intro e w5 hW
  obtain ⟨g5, rfl, hS⟩ := HE.out _ _ _ HV.out hW
  have HS := hid hS
  clear hW hS HE HWi HV
  go_wp2
  go_ret2
  exact HS.out
set_option maxHeartbeats 1000000 in
theorem dfeed_arg {F : Nat → Prop} (p : Option Addr) (c : Cf) (ts : List Int) (t : Int) (w : World) (hs : StAt w p c ts F) (hc : mayB c = true) (h : t < 0 ∨ c.vocab ≤ t) :
    Calls Tryz.prog 19 #[.pointer p, .int .i64 t] w fun e w' => e = .returned (.tuple #[.pointer none, .int .i64 1]) ∧ Below w.heap.size w w' := by
  have hone := hs.one
  obtain ⟨g, pm, ta, tc, ha, hc', pq, rfl, hS, hF⟩ := hs.get
  have HLn := hid fun (W : World) (hb : Below w.heap.size w W) => dlen_at (hS.below hb)
  have HC := hid fun (W : World) (hb : Below w.heap.size w W) => config_any pm c W (hS.md.below hb)
  have HT := hid fun (W : World) => istoken_any c t W
  rw [tokB_no h] at HT
  have HK := hid fun (W : World) (hb : Below w.heap.size w W) => (hS.below hb).cells
  generalize ts.length = n at *
  clear hs hS hF hc h
  have z1 : ((n : Int) == 0) = false := by simp; omega
  have z3 : (n : Int) ≠ 0 := by omega
  go_enter Tryz.func19, Tryz.ntmps19
  go_wp2_with fail
  refine (HLn.out w (Below.refl _ _)).mono ?_
  rintro e w1 ⟨rfl, hb⟩
  have HV := hid hb
  obtain ⟨c0, c1, c2, c3⟩ := HK.out _ hb
  clear hb
  go_wp2_with fail
  refine (HC.out _ HV.out).mono ?_
  rintro e w2 ⟨rfl, hb⟩
  replace HV := hid (HV.out.trans (hb.mono HV.out.size))
  clear c0 c1 c2 c3 hb HK HC HLn
  go_wp2_with fail
  refine (HT.out _).mono ?_
  rintro e w3 ⟨rfl, hb⟩
  replace HV := hid (HV.out.trans (hb.mono HV.out.size))
  clear hb HT
  go_wp2
  go_ret2
  exact ⟨rfl, HV.out⟩
theorem dfeed_nil (t : Int) (w : World) :
    Calls Tryz.prog 19 #[.pointer none, .int .i64 t] w fun e w' => e = .returned (.tuple #[.pointer none, .int .i64 2]) ∧ Below w.heap.size w w' := by
  go_enter Tryz.func19, Tryz.ntmps19
  go_wp2_with fail
  refine (dlen_nil w).mono ?_
  rintro e w1 ⟨rfl, hb⟩
  have HV := hid hb
  clear hb
  go_wp2
  go_ret2
  exact ⟨rfl, HV.out⟩

theorem dnext_nil (seed : Int) (w : World) :
    Calls Tryz.prog 21 #[.pointer none, .int .u64 seed] w fun e w' => e = .returned (.tuple #[.int .i64 0, .bool false]) ∧ Below w.heap.size w w' := by
  go_enter Tryz.func21, Tryz.ntmps21
  go_wp2_with fail
  refine (dlen_nil w).mono ?_
  rintro e w1 ⟨rfl, hb⟩
  have HV := hid hb
  clear hb
  go_wp2
  go_ret2
  exact ⟨rfl, HV.out⟩
theorem dnext_full {F : Nat → Prop} (p : Option Addr) (c : Cf) (ts : List Int) (seed : Int) (w : World) (hs : StAt w p c ts F) (hc : mayB c = true) (hl : ts.length = 256) :
    Calls Tryz.prog 21 #[.pointer p, .int .u64 seed] w fun e w' => e = .returned (.tuple #[.int .i64 0, .bool false]) ∧ Below w.heap.size w w' := by
  have hL := dlen_any p c ts w hs
  rw [hl, show ((256 : Nat) : Int) = 256 from rfl] at hL
  clear hs hc hl
  go_enter Tryz.func21, Tryz.ntmps21
  go_wp2_with fail
  refine hL.mono ?_
  rintro e w1 ⟨rfl, hb⟩
  have HV := hid hb
  clear hb hL
  go_wp2
  go_ret2
  exact ⟨rfl, HV.out⟩
set_option maxHeartbeats 1000000 in
theorem dnext_yes {F : Nat → Prop} (p : Option Addr) (c : Cf) (ts : List Int) (seed : Int) (w : World) (hs : StAt w p c ts F) (hc : mayB c = true) (hl : ts.length < 256) :
    Calls Tryz.prog 21 #[.pointer p, .int .u64 seed] w fun e w' => e = .returned (.tuple #[.int .i64 (toldZ c ts seed), .bool true]) ∧ Below w.heap.size w w' := by
  have hone := hs.one
  obtain ⟨g, pm, ta, tc, ha, hc', pq, rfl, h, hF⟩ := hs.get
  have hLn := dlen_at h
  obtain ⟨hl1, hd, hT, hBs, hBi⟩ := h.mks
  simp only at hl1 hT hBs hBi
  obtain ⟨m, hm⟩ : ∃ m, ts.length = m + 1 := ⟨ts.length - 1, by omega⟩
  obtain ⟨b1, o1, rfl, cm⟩ := hT.rd.cell m (by omega)
  have hro := hT.rows m (by omega)
  have hsh := hT.short m (by omega)
  rw [outsL_at c ts (by omega)] at hro
  have HN := hid fun (W : World) (hb : Below w.heap.size w W) => snext_any pm c _ _ _ _ seed (ts.length : Int) W (h.md.below hb) hc (hro.below hb) hsh
  have hTo : nextZ c (outK c ts (m + 1)) seed (ts.length : Int) = toldZ c ts seed := by unfold toldZ; rw [hm]
  rw [hTo] at HN
  have HK := hid fun (W : World) (hb : Below w.heap.size w W) => (h.below hb).cells
  have HKm := hid fun (W : World) (hb : Below w.heap.size w W) => cell_later_of cm hb
  have r2 := hT.rd.room
  have m2 := hT.rd.most
  clear hs h hF hc hT hBs hBi hl1 hro hTo cm
  generalize hd[m]?.getD (none, 0, 0) = y at *
  obtain ⟨y1, y2, y3⟩ := y
  simp only at HN HKm hsh
  generalize toldZ c ts seed = td at *
  generalize ts.length = n at *
  have z1 : ((n : Int) == 0) = false := by simp; omega
  have z2 : ((n : Int) == 256) = false := by simp; omega
  have z3 : (n : Int) ≠ 0 := by omega
  have z4 : (n : Int) ≠ 256 := by omega
  have hw : IntKind.i64.wrap ((n : Int) - 1) = (m : Int) := by rw [wrap_in (by omega) (by omega)]; omega
  have hu : IntKind.u64.wrap (n : Int) = (n : Int) := by rw [IntKind.wrap_u64]; omega
  have l0 : (0 : Int) ≤ (m : Int) := by omega
  have l1 : (m : Int) < (n : Int) := by omega
  have l2 : m < n := by omega
  clear hm hl hone
  go_enter Tryz.func21, Tryz.ntmps21
  go_wp2_with fail
  refine hLn.mono ?_
  rintro e w1 ⟨rfl, hb⟩
  have HV : Hid (Below w.heap.size w w1.drew) := hb.drew
  have HVs := hid hb
  clear hb hLn
  go_wp2_with fail
  go_region_held3 (fun W : World => W.cell? ⟨g, 0, none⟩ = some (.pointer pm) ∧ W.cell? ⟨g, 2, none⟩ = some (.slice (some ⟨b1, o1, none⟩) n hc') ∧ W.cell? ⟨b1, o1 + m, none⟩ = some (.slice y1 y2 y3)) (first | (exact ⟨(HK.out _ HV.out).1, (HK.out _ HV.out).2.2.1, HKm.out _ HV.out⟩) | (exact ⟨(HK.out _ HVs.out).1, (HK.out _ HVs.out).2.2.1, HKm.out _ HVs.out⟩))
    (first
      | (go_at_call 33; (with_reducible refine (HN.out _ HV.out).mono ?_); rintro e w2 ⟨rfl, hb⟩; replace HV := hid (HV.out.trans (hb.mono HV.out.size)); clear hb))
  all_goals
    go_wp2_with fail
    go_ret2
    exact ⟨rfl, HV.out⟩

/-- What a text is cut to. -/
def cutT (n : Int) (k : Nat) : Nat := (max 1 (min n k)).toNat
theorem Reads.tight {k : IntKind} {w : World} {a : Option Addr} {len cap : Nat} {zs : List Int} (h : Reads k w a len cap zs) {m : Nat} (hm : m ≤ len) : Reads k w a m m (zs.take m) :=
  ⟨by rw [List.length_take, h.size]; omega, Nat.le_refl _, by have := h.most; have := h.room; omega, fun e => by have := h.bare e; omega, fun i hi => by
    obtain ⟨b, off, e, hc⟩ := h.cell i (by omega)
    exact ⟨b, off, e, by rw [hc, List.getElem?_take_of_lt hi]⟩⟩
theorem cut_end {w W : World} {g : Nat} {pm ta : Option Addr} {tc : Nat} {ha : Option Addr} {hc : Nat} {pq : Option Addr} {c : Cf} {ts : List Int} (h : StIn w g pm ta tc ha hc pq c ts) {m : Nat} (hm : m ≤ ts.length) (hb : Below w.heap.size w W)
    {B : Nat} (hM : MemAt W (some ⟨B, 0, none⟩) (cutM (memL c c.layers.toNat (tvsL c ts) ts.length) m)) :
    StIn (W.alloc (.cells #[.pointer pm, .slice ta m m, .slice ha m m, .pointer (some ⟨B, 0, none⟩)] 67)) W.heap.size pm ta m ha m (some ⟨B, 0, none⟩) c (ts.take m) := by
  have hA : Below W.heap.size W (W.alloc (.cells #[.pointer pm, .slice ta m m, .slice ha m m, .pointer (some ⟨B, 0, none⟩)] 67)) := (Below.refl _ _).alloc (Nat.le_refl _) _
  have hl : (ts.take m).length = m := by rw [List.length_take]; omega
  refine ⟨?_, (h.md.below hb).below hA, ?_, ?_, ?_⟩
  · rw [hl]; exact heap_alloc_new W _
  · rw [hl]; exact ((h.tk.below hb).below hA).tight hm
  · rw [hl, ← outsL_take c ts hm]; exact TbH.cut ((h.mks.below hb).below hA) hm
  · rw [← memL_take c ts hm]; exact hM.below hA
set_option maxHeartbeats 1000000 in
theorem dcut_any {F : Nat → Prop} (p : Option Addr) (c : Cf) (ts : List Int) (n : Int) (w : World) (hs : StAt w p c ts F) (hc : mayB c = true) :
    Calls Tryz.prog 25 #[.pointer p, .int .i64 n] w fun e w' => ∃ g F', e = .returned (.pointer (some ⟨g, 0, none⟩)) ∧ StAt w' (some ⟨g, 0, none⟩) c (ts.take (cutT n ts.length)) F' ∧ (∀ k, F' k → F k ∨ w.heap.size ≤ k ∨ NotInt w k) ∧ Below w.heap.size w w' := by
  have hone := hs.one
  have hmo := hs.most
  obtain ⟨g, pm, ta, tc, ha, hc', pq, rfl, h, hF⟩ := hs.get
  have h4 := may_parts hc
  have HLn := hid fun (W : World) (hb : Below w.heap.size w W) => dlen_at (h.below hb)
  have HK := hid fun (W : World) (hb : Below w.heap.size w W) => (h.below hb).cells
  obtain ⟨m, hm⟩ : ∃ m, cutT n ts.length = m := ⟨_, rfl⟩
  obtain ⟨x, hx⟩ : ∃ x : Int, (if (ts.length : Int) < n then (ts.length : Int) else n) = x := ⟨_, rfl⟩
  have hmq : m ≤ ts.length := by unfold cutT at hm; omega
  have hm1 : 1 ≤ m := by unfold cutT at hm; omega
  have hA : (if (1 : Int) < x then x else 1) = (m : Int) := by
    unfold cutT at hm
    rw [← hx]
    split <;> split at * <;> omega
  have hB : (if x < (1 : Int) then 1 else x) = (m : Int) := by
    unfold cutT at hm
    rw [← hx]
    split <;> split at * <;> omega
  rw [hm]
  have HCu := hid fun (W : World) (hb : Below w.heap.size w W) => cut_any pq (memL c c.layers.toNat (tvsL c ts) ts.length) (m : Int) ts.length W (h.mem.below hb) (by rw [memL_len]; omega) (memL_even _ _ _ _) (by omega) (fun e => by rw [memL_len] at e; omega)
  have hcm : cutN (m : Int) ts.length = m := by unfold cutN; omega
  rw [hcm] at HCu
  have HE : Hid (∀ (W : World) (B : Nat), Below w.heap.size w W → MemAt W (some ⟨B, 0, none⟩) (cutM (memL c c.layers.toNat (tvsL c ts) ts.length) m) →
      ∃ F', StAt (W.alloc (.cells #[.pointer pm, .slice ta m m, .slice ha m m, .pointer (some ⟨B, 0, none⟩)] 67)) (some ⟨W.heap.size, 0, none⟩) c (ts.take m) F' ∧ (∀ k, F' k → F k ∨ w.heap.size ≤ k ∨ NotInt w k) ∧ Below w.heap.size w (W.alloc (.cells #[.pointer pm, .slice ta m m, .slice ha m m, .pointer (some ⟨B, 0, none⟩)] 67))) := by
    intro W B hb hM
    have hl : (ts.take m).length = m := by rw [List.length_take]; omega
    exact ⟨_, (cut_end h hmq hb hM).at (by omega) (by omega), stF_of (hb.alloc hb.size _) (fun k hk => .inl (hF k hk)), hb.alloc hb.size _⟩
  have r1 := h.tk.room
  have m1 := h.tk.most
  have r2 := h.mks.2.choose_spec.1.rd.room
  have m2 := h.mks.2.choose_spec.1.rd.most
  simp only at r2 m2
  have q1 : m ≤ tc := by omega
  have q2 : m ≤ hc' := by omega
  clear hs h hF hc hm hcm h4
  generalize memL c c.layers.toNat (tvsL c ts) ts.length = MM at *
  generalize ts.length = k at *
  have z1 : ((k : Int) == 0) = false := by simp; omega
  have z3 : (k : Int) ≠ 0 := by omega
  go_enter Tryz.func25, Tryz.ntmps25
  go_wp2_with fail
  refine (HLn.out w (Below.refl _ _)).mono ?_
  rintro e w1 ⟨rfl, hb⟩
  have HV := hid hb
  clear hb
  go_wp2_with fail
  refine (HLn.out _ HV.out).mono ?_
  rintro e w2 ⟨rfl, hb⟩
  replace HV := hid (HV.out.trans (hb.mono HV.out.size))
  clear hb HLn
  go_wp2_with fail
  replace HV : Hid (Below w.heap.size w w2.drew) := HV.out.drew
  have HUa := hid fun (W : World) (hb : Below w.heap.size w W) (o : Obj) => hb.alloc hb.size o
  go_region_held3 (fun W : World => W.cell? ⟨g, 0, none⟩ = some (.pointer pm) ∧ W.cell? ⟨g, 1, none⟩ = some (.slice ta k tc) ∧ W.cell? ⟨g, 2, none⟩ = some (.slice ha k hc') ∧ W.cell? ⟨g, 3, none⟩ = some (.pointer pq)) (first | (with_reducible exact HK.out _ HV.out) | (with_reducible exact HK.out _ (HUa.out _ HV.out _)))
    (first
      | (go_at_call 41; (with_reducible refine (firsti_any ta k tc m _ q1 m1).mono ?_); rintro e w' ⟨rfl, rfl⟩)
      | (go_at_call 42; (with_reducible refine (firstr_any ha k hc' m _ q2 m2).mono ?_); rintro e w' ⟨rfl, rfl⟩)
      | (go_at_call 43; (with_reducible refine (HCu.out _ HV.out).mono ?_); rintro e w3 ⟨B3, g3, ps3, rfl, _, _, hM3, hb⟩; replace HV := hid (HV.out.trans (hb.mono HV.out.size)); have HM3 : Hid (MemAt w3 (some ⟨B3, 0, none⟩) (cutM MM m)) := .inr ⟨_, _, _, rfl, hM3⟩; clear hb hM3))
  all_goals
    have HF := hid (HE.out w3 B3 HV.out HM3.out)
    go_wp2_with fail
    go_ret
    obtain ⟨F', k1, k2, k3⟩ := HF.out
    exact ⟨_, F', rfl, k1, k2, k3⟩
theorem dcut_nil (n : Int) (w : World) : Calls Tryz.prog 25 #[.pointer none, .int .i64 n] w fun e w' => e = .returned (.pointer none) ∧ Below w.heap.size w w' := by
  go_enter Tryz.func25, Tryz.ntmps25
  go_wp2_with fail
  refine (dlen_nil w).mono ?_
  rintro e w1 ⟨rfl, hb⟩
  have HV := hid hb
  clear hb
  go_wp2
  go_ret
  exact ⟨rfl, HV.out⟩
end Go.Proofs.YtahpilgbabjebaaGreat
namespace Go.Proofs.YtahpilgbabjebaaGreat
open Go.RowKit
set_option linter.unusedVariables false
set_option maxRecDepth 1000000

theorem grow_run (n : Nat) (w : World) (h0 : 0 < n) (hn : n ≤ 1000) (ty : TypeId) : ∃ (g cap : Nat) (w' : World), (Builtin.append_ #[25, 3] ty #[.slice none 0 0, .int .i64 (n : Int)]).run Tryz.prog w = .ok (.slice (some ⟨g, 0, none⟩) n cap) w' ∧ w'.ownsRow w.heap.size 3 1 (.slice (some ⟨g, 0, none⟩) 0 cap) 0 [] ∧ n ≤ cap ∧ cap ≤ 9223372036854775807 ∧ Below w.heap.size w w' := by
  obtain ⟨i0, hi, hz0, hz1, hz2⟩ := info_parts Tryz.info3
  have hr := Lib.run_append_nil_zeros (P := Tryz.prog) w 25 3 ty 3 i0 (.int .i64 0) .i64 .i64 Tryz.underlying25 Tryz.underlying3 hi hz0 n h0 (by omega) (by omega) (by rw [hz2]; omega)
  have hge := grownCap_ge w n 0 3
  have hcm : grownCap w n 0 3 ≤ maxLen := grownCap_le_maxLen w n 0 3 (by unfold maxLen; omega)
  refine ⟨_, _, _, hr, ?_, hge, by unfold maxLen at hcm; omega, ((Below.refl _ _).drew.alloc (by simp) _)⟩
  exact World.ownsRow_made (base := w.heap.size) (e := 3) (size := 1) w.drew _ _ (Nat.le_refl _) hcm (by
    have : (Value.int IntKind.i64 0).cells.size = 1 := rfl
    simp only [Array.size_append, size_zeroCells, this]
    omega)
/-- A row of the call's own, of no ints yet, is handed back. -/
theorem grow_nil (n : Nat) (w : World) (hn : n ≤ 1000) :
    Calls Tryz.prog 101 #[.slice none 0 0, .int .i64 n] w fun e w' => ∃ v, e = .returned v ∧ w'.ownsRow w.heap.size 3 1 v 0 [] ∧ Below w.heap.size w w' := by
  by_cases h0 : n = 0
  · subst h0
    go_enter Tryz.func101, Tryz.ntmps101
    go_wp2
    go_ret
    exact ⟨_, rfl, World.ownsRow_nil _ _ _ _, Below.refl _ _⟩
  · have h1 : (0 : Int) < (n : Int) := by omega
    have h2 : ¬ (n : Int) < 0 := by omega
    obtain ⟨g, cap, w1, hr, hO, hl, hm, hb⟩ := grow_run n w (by omega) hn 25
    have HO := hid hO
    have HB := hid hb
    clear hO hb h0
    go_enter Tryz.func101, Tryz.ntmps101
    go_wp2_with (at_builtin; refine Lib.wpList_append_run _ rfl (.tmp 20) (.tmp 21) 25 3 rfl (.slice none 0 0) (.int .i64 (n : Int)) rfl rfl _ _ hr ?_)
    go_wp2
    go_ret
    exact ⟨_, rfl, HO.out, HB.out⟩

set_option maxHeartbeats 1000000 in
theorem concat_two (B : Nat) (a1 : Option Addr) (n1 c1 : Nat) (xs1 : List Int) (a2 : Option Addr) (n2 c2 : Nat) (xs2 : List Int) (w : World) (k0 : w.cell? ⟨B, 0, none⟩ = some (.slice a1 n1 c1)) (k1 : w.cell? ⟨B, 1, none⟩ = some (.slice a2 n2 c2)) (r1 : Reads .i64 w a1 n1 c1 xs1) (r2 : Reads .i64 w a2 n2 c2 xs2) (hn : n1 + n2 ≤ 1000) :
    Calls Tryz.prog 58 #[.slice (some ⟨B, 0, none⟩) 2 2] w fun e w' => Gives w (n1 + n2) (xs1 ++ xs2) e w' := by
  obtain ⟨i0, hi, hz0, hz1, hz2⟩ := info_parts Tryz.info3
  have HR1 := hid fun (W : World) (hb : Below w.heap.size w W) => r1.below hb
  have HR2 := hid fun (W : World) (hb : Below w.heap.size w W) => r2.below hb
  have HK := hid fun (W : World) (hb : Below w.heap.size w W) => (⟨cell_later_of k0 hb, cell_later_of k1 hb⟩ : W.cell? ⟨B, 0, none⟩ = some (.slice a1 n1 c1) ∧ W.cell? ⟨B, 1, none⟩ = some (.slice a2 n2 c2))
  have HG := hid fun (W : World) => grow_nil (n1 + n2) W hn
  have e1 := r1.room
  have e2 := r2.room
  have e3 := r1.most
  have e4 := r2.most
  have hw1 : IntKind.i64.wrap ((n1 : Int) + (n2 : Int)) = (n1 : Int) + (n2 : Int) := wrap_in (by omega) (by omega)
  have hng : ¬ ((n1 : Int) + (n2 : Int) < 0) := by omega
  have hng1 : ¬ ((n1 : Int) < 0) := by omega
  have hcs : ((n1 + n2 : Nat) : Int) = (n1 : Int) + (n2 : Int) := by omega
  rw [hcs] at HG
  clear r1 r2 hcs
  go_enter Tryz.func58, Tryz.ntmps58
  go_wp2_with fail
  go_loop [3, 11] (fun s i => ∃ k : Nat, i = .int .i64 k ∧ Hid ((k = 0 ∧ s = .int .i64 0) ∨ (k = 1 ∧ s = .int .i64 n1) ∨ (k = 2 ∧ s = .int .i64 ((n1 : Int) + (n2 : Int))))) (fun _ i => 2 - (intOf i).toNat)
  case atStart => exact ⟨0, rfl, .inl ⟨rfl, rfl⟩⟩
  case round =>
  obtain ⟨k, rfl, HC⟩ := hrel
  rcases HC.out with ⟨rfl, rfl⟩ | ⟨rfl, rfl⟩ | ⟨rfl, rfl⟩
  · clear HC HG
    go_wp2_with fail
    go_round
    case rel => exact ⟨1, rfl, .inr (.inl ⟨rfl, rfl⟩)⟩
    case measure => simp [intOf]
  · clear HC HG
    go_wp2_with fail
    go_round
    case rel => exact ⟨2, rfl, .inr (.inr ⟨rfl, rfl⟩)⟩
    case measure => simp [intOf]
  · clear HC
    go_wp2_with fail
    refine (HG.out _).mono ?_
    rintro e w1 ⟨v1, rfl, hO, hb⟩
    have HO0 := hid hO
    have HV0 := hid hb
    clear hO hb HG k0 k1
    go_wp2_with fail
    go_loopw [6, 27] (fun v i W => ∃ (k m : Nat) (us : List Int), i = .int .i64 k ∧ Hid (W.ownsRow w.heap.size 3 1 v m (us.map (Value.int .i64))) ∧ Hid (Below w.heap.size w W) ∧ Hid ((k = 0 ∧ m = 0 ∧ us = []) ∨ (k = 1 ∧ m = n1 ∧ us = xs1) ∨ (k = 2 ∧ m = n1 + n2 ∧ us = xs1 ++ xs2))) (fun _ i _ => 2 - (intOf i).toNat)
    case atStart => exact ⟨0, 0, [], rfl, HO0, HV0, .inl ⟨rfl, rfl, rfl⟩⟩
    case round =>
    obtain ⟨k, m, us, rfl, HO, HV, HC⟩ := hrel
    rename World => wr
    clear HO0 HV0
    obtain ⟨k0, k1⟩ := HK.out _ HV.out
    have HSz := hid HV.out.size
    rcases HC.out with ⟨rfl, rfl, rfl⟩ | ⟨rfl, rfl, rfl⟩ | ⟨rfl, rfl, rfl⟩
    · clear HC
      go_wp2_with (at_builtin; refine append_any _ rfl (.tmp 31) (.tmp 32) 25 rfl w.heap.size 3 i0 (.int .i64 0) 8 Tryz.underlying25 hi hz0 hz1 hz2 rfl .i64 _ 0 [] rfl HO.out a1 n1 c1 xs1 rfl (HR1.out _ HV.out) (by omega) (by omega) HSz.out ?_; intro v3 w3 hO3 hb3)
      have HO3 : Hid (w3.ownsRow w.heap.size 3 1 v3 n1 (xs1.map (Value.int .i64))) := by unfold Hid; rw [Nat.zero_add, List.nil_append] at hO3; exact hO3
      have HV3 := hid (HV.out.trans hb3)
      clear hO3 hb3 HO HV HSz k0 k1
      go_wp2_with fail
      go_round
      case rel => exact ⟨1, n1, xs1, rfl, HO3, HV3, .inr (.inl ⟨rfl, rfl, rfl⟩)⟩
      case measure => simp [intOf]
    · clear HC
      go_wp2_with (at_builtin; refine append_any _ rfl (.tmp 31) (.tmp 32) 25 rfl w.heap.size 3 i0 (.int .i64 0) 8 Tryz.underlying25 hi hz0 hz1 hz2 rfl .i64 _ _ _ rfl HO.out a2 n2 c2 xs2 rfl (HR2.out _ HV.out) (by omega) (by omega) HSz.out ?_; intro v3 w3 hO3 hb3)
      have HO3 := hid hO3
      have HV3 := hid (HV.out.trans hb3)
      clear hO3 hb3 HO HV HSz k0 k1
      go_wp2_with fail
      go_round
      case rel => exact ⟨2, _, _, rfl, HO3, HV3, .inr (.inr ⟨rfl, rfl, rfl⟩)⟩
      case measure => simp [intOf]
    · clear HC HSz k0 k1
      obtain ⟨a5, c5, rfl, hr5⟩ := Reads.own (k := .i64) HO.out
      have HR5 := hid hr5
      clear HO hr5
      go_wp2
      go_ret
      exact ⟨_, _, rfl, HR5.out, HV.out⟩
end Go.Proofs.YtahpilgbabjebaaGreat
namespace Go.Proofs.YtahpilgbabjebaaGreat
open Go.RowKit
set_option linter.unusedVariables false
set_option maxRecDepth 1000000

theorem foot_trans {w wr : World} {F F1 F2 : Nat → Prop} (hb : Below w.heap.size w wr) (h1 : ∀ k, F1 k → F k ∨ w.heap.size ≤ k ∨ NotInt w k) (h2 : ∀ k, F2 k → F1 k ∨ wr.heap.size ≤ k ∨ NotInt wr k) (k : Nat) (hk : F2 k) : F k ∨ w.heap.size ≤ k ∨ NotInt w k := by
  rcases h2 k hk with h | h | h
  · exact h1 k h
  · exact .inr (.inl (Nat.le_trans hb.size h))
  · rcases Nat.lt_or_ge k w.heap.size with hl | hl
    · exact .inr (.inr (h.back hb hl))
    · exact .inr (.inl hl)
theorem GivesS.up {w wr w' : World} {F F1 : Nat → Prop} {c : Cf} {ts : List Int} {e : Ending} (hb : Below w.heap.size w wr) (h1 : ∀ k, F1 k → F k ∨ w.heap.size ≤ k ∨ NotInt w k) (h : GivesS wr F1 c ts e w') : GivesS w F c ts e w' := by
  obtain ⟨g, F2, he, hS, hF, hb2⟩ := h
  exact ⟨g, F2, he, hS, foot_trans hb h1 hF, hb.trans (hb2.mono hb.size)⟩
theorem GivesE.up {w wr w' : World} {n : Int} {e : Ending} (hb : Below w.heap.size w wr) (h : GivesE wr n e w') : GivesE w n e w' := ⟨h.1, hb.trans (h.2.mono hb.size)⟩

set_option maxHeartbeats 1000000 in
theorem feedall_yes {F : Nat → Prop} (p : Option Addr) (c : Cf) (ts : List Int) (B : Nat) (a1 : Option Addr) (n1 c1 : Nat) (xs1 : List Int) (a2 : Option Addr) (n2 c2 : Nat) (xs2 : List Int) (w : World) (hs : StAt w p c ts F) (hc : mayB c = true)
    (k0 : w.cell? ⟨B, 0, none⟩ = some (.slice a1 n1 c1)) (k1 : w.cell? ⟨B, 1, none⟩ = some (.slice a2 n2 c2)) (r1 : Reads .i64 w a1 n1 c1 xs1) (r2 : Reads .i64 w a2 n2 c2 xs2) (hn : ts.length + (n1 + n2) ≤ 256)
    (hg : ∀ i, i < n1 + n2 → 0 ≤ (xs1 ++ xs2)[i]?.getD 0 ∧ (xs1 ++ xs2)[i]?.getD 0 < c.vocab) :
    Calls Tryz.prog 39 #[.pointer p, .slice (some ⟨B, 0, none⟩) 2 2] w fun e w' => GivesS w F c (ts ++ (xs1 ++ xs2)) e w' := by
  have hC := concat_two B a1 n1 c1 xs1 a2 n2 c2 xs2 w k0 k1 r1 r2 (by omega)
  have hul : (xs1 ++ xs2).length = n1 + n2 := by rw [List.length_append, r1.size, r2.size]
  obtain ⟨g0, rfl⟩ := hs.ptr
  clear k0 k1 r1 r2
  generalize xs1 ++ xs2 = us at *
  obtain ⟨N, hN⟩ : ∃ N, n1 + n2 = N := ⟨_, rfl⟩
  rw [hN] at hC hul hg hn
  clear hN
  have HFd := hid fun (k g : Nat) (F' : Nat → Prop) (W : World) (h : StAt W (some ⟨g, 0, none⟩) c (ts ++ us.take k) F') (hk : k < N) => dfeed_yes (some ⟨g, 0, none⟩) c (ts ++ us.take k) (us[k]?.getD 0) W h hc (hg k hk).1 (hg k hk).2 (by rw [List.length_append, List.length_take]; omega)
  have HTk : Hid (∀ k, k < N → (ts ++ us.take k) ++ [us[k]?.getD 0] = ts ++ us.take (k + 1)) := fun k hk => by rw [List.append_assoc, ← take_snoc (by omega)]
  have HT0 : Hid (ts ++ us.take 0 = ts) := by unfold Hid; simp
  have HTN : Hid (ts ++ us.take N = ts ++ us) := by unfold Hid; rw [List.take_of_length_le (by omega)]
  have HS0 := hid hs
  have hN256 : N ≤ 256 := by omega
  clear hs hc hg hn hul
  go_enter Tryz.func39, Tryz.ntmps39
  go_wp2_with fail
  refine hC.mono ?_
  rintro e w1 ⟨a, cap, rfl, hr, hb⟩
  have HR := hid hr
  have HV := hid hb
  have r1 := hr.room
  have m1 := hr.most
  have HS1 : Hid (StAt w1 (some ⟨g0, 0, none⟩) c (ts ++ us.take 0) F) := by unfold Hid; rw [HT0.out]; exact HS0.out.below hb
  clear hC hr hb HS0 HT0
  go_wp2_with fail
  go_loopw [0, 13] (fun u i W => ∃ (k g : Nat) (F' : Nat → Prop), k ≤ N ∧ u = .pointer (some ⟨g, 0, none⟩) ∧ i = .int .i64 k ∧ Hid (StAt W (some ⟨g, 0, none⟩) c (ts ++ us.take k) F') ∧ Hid (∀ x, F' x → F x ∨ w.heap.size ≤ x ∨ NotInt w x) ∧ Hid (Below w1.heap.size w1 W)) (fun _ i _ => N - (intOf i).toNat)
  case atStart => exact ⟨0, g0, F, Nat.zero_le _, rfl, rfl, HS1, fun x hx => .inl hx, Below.refl _ _⟩
  case round =>
  obtain ⟨k, g, F', hk, rfl, rfl, HS, HF, HW⟩ := hrel
  rename World => wr
  clear HS1
  by_cases hlt : k < N
  · obtain ⟨b1, o1, rfl, cc⟩ := (HR.out.below HW.out).cell k hlt
    have q1 : (k : Int) < (N : Int) := by omega
    have hFd := HFd.out k g F' wr HS.out hlt
    have HE := hid (HTk.out k hlt)
    rw [HE.out] at hFd
    clear HFd HTk HTN HR HE
    generalize us[k]?.getD 0 = t at *
    go_wp2_with fail
    refine hFd.mono ?_
    rintro e w2 ⟨g2, F2, rfl, hS2, hF2, hb2⟩
    have HS2 := hid hS2
    have HF2 := hid (foot_trans (HV.out.trans (HW.out.mono HV.out.size)) HF.out hF2)
    have HW2 := hid (HW.out.trans (hb2.mono HW.out.size))
    clear hFd hS2 hF2 hb2 HS HF HW cc
    go_wp2_with fail
    go_round
    case rel => exact ⟨k + 1, g2, F2, by omega, rfl, by go_num, HS2, HF2, HW2⟩
    case measure => simp [intOf]; omega
  · obtain rfl : k = N := by omega
    have HSe : Hid (StAt wr (some ⟨g, 0, none⟩) c (ts ++ us) F') := by unfold Hid; rw [← HTN.out]; exact HS.out
    have HVe := hid (HV.out.trans (HW.out.mono HV.out.size))
    clear HFd HTk HTN HR HS HW HV
    go_wp2
    go_ret2
    exact ⟨g, F', rfl, HSe.out, HF.out, HVe.out⟩
set_option maxHeartbeats 1000000 in
theorem feedall_no {F : Nat → Prop} (p : Option Addr) (c : Cf) (ts : List Int) (B : Nat) (a1 : Option Addr) (n1 c1 : Nat) (xs1 : List Int) (a2 : Option Addr) (n2 c2 : Nat) (xs2 : List Int) (w : World) (hs : StAt w p c ts F) (hc : mayB c = true)
    (k0 : w.cell? ⟨B, 0, none⟩ = some (.slice a1 n1 c1)) (k1 : w.cell? ⟨B, 1, none⟩ = some (.slice a2 n2 c2)) (r1 : Reads .i64 w a1 n1 c1 xs1) (r2 : Reads .i64 w a2 n2 c2 xs2) (hn : ts.length + (n1 + n2) ≤ 256) (q : Nat) (hq : q < n1 + n2)
    (hg : ∀ i, i < q → 0 ≤ (xs1 ++ xs2)[i]?.getD 0 ∧ (xs1 ++ xs2)[i]?.getD 0 < c.vocab) (hb : (xs1 ++ xs2)[q]?.getD 0 < 0 ∨ c.vocab ≤ (xs1 ++ xs2)[q]?.getD 0) :
    Calls Tryz.prog 39 #[.pointer p, .slice (some ⟨B, 0, none⟩) 2 2] w fun e w' => GivesE w 1 e w' := by
  have hC := concat_two B a1 n1 c1 xs1 a2 n2 c2 xs2 w k0 k1 r1 r2 (by omega)
  have hul : (xs1 ++ xs2).length = n1 + n2 := by rw [List.length_append, r1.size, r2.size]
  obtain ⟨g0, rfl⟩ := hs.ptr
  clear k0 k1 r1 r2
  generalize xs1 ++ xs2 = us at *
  obtain ⟨N, hN⟩ : ∃ N, n1 + n2 = N := ⟨_, rfl⟩
  rw [hN] at hC hul hn hq
  clear hN
  have HFd := hid fun (k g : Nat) (F' : Nat → Prop) (W : World) (h : StAt W (some ⟨g, 0, none⟩) c (ts ++ us.take k) F') (hk : k < q) => dfeed_yes (some ⟨g, 0, none⟩) c (ts ++ us.take k) (us[k]?.getD 0) W h hc (hg k hk).1 (hg k hk).2 (by rw [List.length_append, List.length_take]; omega)
  have HFn := hid fun (g : Nat) (F' : Nat → Prop) (W : World) (h : StAt W (some ⟨g, 0, none⟩) c (ts ++ us.take q) F') => dfeed_arg (some ⟨g, 0, none⟩) c (ts ++ us.take q) (us[q]?.getD 0) W h hc hb
  have HTk : Hid (∀ k, k < q → (ts ++ us.take k) ++ [us[k]?.getD 0] = ts ++ us.take (k + 1)) := fun k hk => by rw [List.append_assoc, ← take_snoc (by omega)]
  have HT0 : Hid (ts ++ us.take 0 = ts) := by unfold Hid; simp
  have HS0 := hid hs
  have hN256 : N ≤ 256 := by omega
  clear hs hc hg hn hul hb
  go_enter Tryz.func39, Tryz.ntmps39
  go_wp2_with fail
  refine hC.mono ?_
  rintro e w1 ⟨a, cap, rfl, hr, hb⟩
  have HR := hid hr
  have HV := hid hb
  have r1 := hr.room
  have m1 := hr.most
  have HS1 : Hid (StAt w1 (some ⟨g0, 0, none⟩) c (ts ++ us.take 0) F) := by unfold Hid; rw [HT0.out]; exact HS0.out.below hb
  clear hC hr hb HS0 HT0
  go_wp2_with fail
  go_loopw [0, 13] (fun u i W => ∃ (k g : Nat) (F' : Nat → Prop), k ≤ q ∧ u = .pointer (some ⟨g, 0, none⟩) ∧ i = .int .i64 k ∧ Hid (StAt W (some ⟨g, 0, none⟩) c (ts ++ us.take k) F') ∧ Hid (Below w1.heap.size w1 W)) (fun _ i _ => N - (intOf i).toNat)
  case atStart => exact ⟨0, g0, F, Nat.zero_le _, rfl, rfl, HS1, Below.refl _ _⟩
  case round =>
  obtain ⟨k, g, F', hk, rfl, rfl, HS, HW⟩ := hrel
  rename World => wr
  clear HS1
  have hlN : k < N := by omega
  obtain ⟨b1, o1, rfl, cc⟩ := (HR.out.below HW.out).cell k hlN
  have q1 : (k : Int) < (N : Int) := by omega
  by_cases hlt : k < q
  · have hFd := HFd.out k g F' wr HS.out hlt
    have HE := hid (HTk.out k hlt)
    rw [HE.out] at hFd
    clear HFd HTk HR HE HFn
    generalize us[k]?.getD 0 = t at *
    go_wp2_with fail
    refine hFd.mono ?_
    rintro e w2 ⟨g2, F2, rfl, hS2, hF2, hb2⟩
    have HS2 := hid hS2
    have HW2 := hid (HW.out.trans (hb2.mono HW.out.size))
    clear hFd hS2 hF2 hb2 HS HW cc
    go_wp2_with fail
    go_round
    case rel => exact ⟨k + 1, g2, F2, by omega, rfl, by go_num, HS2, HW2⟩
    case measure => simp [intOf]; omega
  · obtain rfl : q = k := by omega
    have hFd := HFn.out g F' wr HS.out
    clear HFd HTk HR HFn
    generalize us[q]?.getD 0 = t at *
    go_wp2_with fail
    refine hFd.mono ?_
    rintro e w2 ⟨rfl, hb2⟩
    have HVe := hid (HV.out.trans ((HW.out.trans (hb2.mono HW.out.size)).mono HV.out.size))
    clear hFd hb2 HS HW cc HV
    go_wp2
    go_ret2
    exact ⟨rfl, HVe.out⟩

/-- The first bad one. -/
theorem least_bad {P : Nat → Prop} {n : Nat} (h : ∃ i, i < n ∧ ¬ P i) : ∃ q, q < n ∧ ¬ P q ∧ ∀ i, i < q → P i := by
  obtain ⟨i, hi, hp⟩ := h
  induction i using Nat.strongRecOn with
  | _ i ih =>
    by_cases hl : ∀ j, j < i → P j
    · exact ⟨i, hi, hp, hl⟩
    · have : ∃ j, j < i ∧ ¬ P j := Classical.byContradiction fun hn => hl fun j hj => Classical.byContradiction fun hp' => hn ⟨j, hj, hp'⟩
      obtain ⟨j, hj, hpj⟩ := this
      exact ih j hj (by omega) hpj
/-- What Start hands back. -/
structure StartP (w : World) (p : Option Addr) (c : Cf) (j : Jb) (n : Nat) (us : List Int) (e : Ending) (w' : World) : Prop where
  no : mayJ c.vocab j.most j.ts = false → GivesE w 1 e w'
  many : mayJ c.vocab j.most j.ts = true → (j.most < n ∨ 255 < j.lp + n) → GivesE w 5 e w'
  arg : mayJ c.vocab j.most j.ts = true → n ≤ j.most → j.lp + n ≤ 255 → (∃ i, i < n ∧ (us[i]?.getD 0 < 0 ∨ c.vocab ≤ us[i]?.getD 0)) → GivesE w 1 e w'
  yes : mayJ c.vocab j.most j.ts = true → n ≤ j.most → j.lp + n ≤ 255 → (∀ i, i < n → 0 ≤ us[i]?.getD 0 ∧ us[i]?.getD 0 < c.vocab) → GivesS w (mF p) c (0 :: j.ts ++ us) e w'

theorem dstart_nil (j : Jb) (a : Option Addr) (n cap : Nat) (w : World) :
    Calls Tryz.prog 23 #[.pointer none, .agg (JbV j), .slice a n cap] w fun e w' => GivesE w 2 e w' := by
  obtain ⟨wA, hwA⟩ : ∃ wA, wA = w.alloc (.cells (JbV j) 27) := ⟨_, rfl⟩
  have HB0 : Hid (Below w.heap.size w wA) := by unfold Hid; rw [hwA]; exact (Below.refl _ _).alloc (Nat.le_refl _) _
  have hN := dnew_no none ⟨0, 0, 0, 0, 0, 0⟩ wA (.inl ⟨rfl, rfl⟩) (by decide)
  obtain ⟨sd, ap, lp, cp, ts, mo⟩ := j
  unfold JbV at hwA ⊢
  simp only at hwA ⊢
  go_enter Tryz.func23, Tryz.ntmps23
  go_wp2_with fail
  rw [← hwA]
  refine hN.mono ?_
  rintro e w1 ⟨rfl, hb⟩
  have HV := hid (HB0.out.trans (hb.mono HB0.out.size))
  clear hN hb HB0 hwA
  go_wp2
  go_ret2
  exact ⟨rfl, HV.out⟩

set_option maxHeartbeats 4000000 in
theorem dstart_all (p : Option Addr) (c : Cf) (j : Jb) (a : Option Addr) (n cap : Nat) (us : List Int) (w : World) (hp : MdAt w p c) (hc : mayB c = true) (hj : JbIn w j) (hu : Reads .i64 w a n cap us) :
    Calls Tryz.prog 23 #[.pointer p, .agg (JbV j), .slice a n cap] w fun e w' => StartP w p c j n us e w' := by
  obtain ⟨wA, hwA⟩ : ∃ wA, wA = w.alloc (.cells (JbV j) 27) := ⟨_, rfl⟩
  have HB0 : Hid (Below w.heap.size w wA) := by unfold Hid; rw [hwA]; exact (Below.refl _ _).alloc (Nat.le_refl _) _
  have HK := hid fun (W : World) (hb : Below wA.heap.size wA W) => Jb_cells (block_below (show wA.heap[w.heap.size]? = some (.cells (JbV j) 27 (0, 0)) by rw [hwA]; exact heap_alloc_new w _) hb)
  have hN := dnew_yes p c wA (hp.below HB0.out) hc
  have HC := hid fun (W : World) (hb : Below wA.heap.size wA W) => config_any p c W ((hp.below HB0.out).below hb)
  have HMa := hid fun (W : World) (hb : Below wA.heap.size wA W) => dmay_any c j W ((hj.below HB0.out).below hb)
  have HX : Hid (∀ W : World, Below wA.heap.size wA W → Below w.heap.size w W) := fun W hW => HB0.out.trans (hW.mono HB0.out.size)
  have HE1 : Hid (∀ W : World, Below w.heap.size w W → mayJ c.vocab j.most j.ts = false → StartP w p c j n us (.returned (.tuple #[.pointer none, .int .i64 1])) W) := fun W hb hm =>
    ⟨fun _ => ⟨rfl, hb⟩, fun h => Bool.noConfusion (hm.symm.trans h), fun h => Bool.noConfusion (hm.symm.trans h), fun h => Bool.noConfusion (hm.symm.trans h)⟩
  have HE5 : Hid (∀ W : World, Below w.heap.size w W → mayJ c.vocab j.most j.ts = true → (j.most < n ∨ 255 < j.lp + n) → StartP w p c j n us (.returned (.tuple #[.pointer none, .int .i64 5])) W) := fun W hb hm hn =>
    ⟨fun h => Bool.noConfusion (hm.symm.trans h), fun _ _ => ⟨rfl, hb⟩, fun _ h1 h2 => (by omega), fun _ h1 h2 => (by omega)⟩
  have HFA : Hid (∀ (B g : Nat) (F : Nat → Prop) (W : World), mayJ c.vocab j.most j.ts = true → n ≤ j.most → j.lp + n ≤ 255 → Below wA.heap.size wA W → StAt W (some ⟨g, 0, none⟩) c [0] F → (∀ k, F k → mF p k ∨ w.heap.size ≤ k ∨ NotInt w k) → W.cell? ⟨B, 0, none⟩ = some (.slice j.ap j.lp j.cp) → W.cell? ⟨B, 1, none⟩ = some (.slice a n cap) →
      Calls Tryz.prog 39 #[.pointer (some ⟨g, 0, none⟩), .slice (some ⟨B, 0, none⟩) 2 2] W fun e w' => ∃ q m, e = .returned (.tuple #[.pointer q, .int .i64 m]) ∧ StartP w p c j n us (.returned (.tuple #[.pointer q, .int .i64 m])) w') := by
    intro B g F W hm hn1 hn2 hb hS hF k0 k1
    have hj' := (hj.below HB0.out).below hb
    have hu' := (hu.below HB0.out).below hb
    have hbw := HX.out W hb
    obtain ⟨_, _, _, hgj⟩ := mayJ_iff.1 hm
    have hzj := hj.size
    have hzu := hu.size
    have hat : ∀ i, i < n → (j.ts ++ us)[j.lp + i]?.getD 0 = us[i]?.getD 0 := fun i hi => by rw [List.getElem?_append_right (by omega), hzj, Nat.add_sub_cancel_left]
    have haj : ∀ i, i < j.lp → (j.ts ++ us)[i]?.getD 0 = j.ts[i]?.getD 0 := fun i hi => by rw [List.getElem?_append_left (by omega)]
    by_cases hg : ∀ i, i < n → 0 ≤ us[i]?.getD 0 ∧ us[i]?.getD 0 < c.vocab
    · refine (feedall_yes (some ⟨g, 0, none⟩) c [0] B j.ap j.lp j.cp j.ts a n cap us W hS hc k0 k1 hj' hu' (by simp; omega) ?_).mono ?_
      · intro i hi
        rcases Nat.lt_or_ge i j.lp with hl | hl
        · rw [haj i hl]; exact hgj i (by omega)
        · obtain ⟨d, rfl⟩ : ∃ d, i = j.lp + d := ⟨i - j.lp, by omega⟩
          rw [hat d (by omega)]
          exact hg d (by omega)
      · intro e w' hG
        have hG2 := GivesS.up hbw hF hG
        obtain ⟨g5, F5, rfl, rest⟩ := hG
        exact ⟨_, _, rfl, ⟨fun h => Bool.noConfusion (hm.symm.trans h), fun _ h => (by omega), fun _ _ _ ⟨i, hi, hbad⟩ => (by have := hg i hi; omega), fun _ _ _ _ => hG2⟩⟩
    · have hbad : ∃ i, i < n ∧ ¬ (0 ≤ us[i]?.getD 0 ∧ us[i]?.getD 0 < c.vocab) := Classical.byContradiction fun hn => hg fun i hi => Classical.byContradiction fun hp' => hn ⟨i, hi, hp'⟩
      obtain ⟨q, hq, hnq, hlq⟩ := least_bad (P := fun i => 0 ≤ us[i]?.getD 0 ∧ us[i]?.getD 0 < c.vocab) hbad
      refine (feedall_no (some ⟨g, 0, none⟩) c [0] B j.ap j.lp j.cp j.ts a n cap us W hS hc k0 k1 hj' hu' (by simp; omega) (j.lp + q) (by omega) ?_ ?_).mono ?_
      · intro i hi
        rcases Nat.lt_or_ge i j.lp with hl | hl
        · rw [haj i hl]; exact hgj i (by omega)
        · obtain ⟨d, rfl⟩ : ∃ d, i = j.lp + d := ⟨i - j.lp, by omega⟩
          rw [hat d (by omega)]
          exact hlq d (by omega)
      · rw [hat q hq]
        omega
      · intro e w' hG
        have hG2 := GivesE.up hbw hG
        obtain ⟨rfl, rest⟩ := hG
        exact ⟨_, _, rfl, ⟨fun h => Bool.noConfusion (hm.symm.trans h), fun _ h => (by omega), fun _ _ _ _ => hG2, fun _ _ _ h => absurd h hg⟩⟩
  have HFt : Hid (∀ F : Nat → Prop, (∀ k, F k → mF p k ∨ wA.heap.size ≤ k ∨ NotInt wA k) → ∀ k, F k → mF p k ∨ w.heap.size ≤ k ∨ NotInt w k) := fun F h => foot_trans HB0.out (fun k hk => .inl hk) h
  have hzj := hj.size
  have r1 := hj.room
  have m1 := hj.most
  have r2 := hu.room
  have m2 := hu.most
  have HLp : Hid (mayJ c.vocab j.most j.ts = true → j.lp ≤ 255 ∧ j.most ≤ 256) := fun h => by
    have := mayJ_iff.1 h
    omega
  clear hp hc hj hu hzj
  generalize mayJ c.vocab j.most j.ts = bb at *
  obtain ⟨sd, ap, lp, cp, ts, mo⟩ := j
  unfold JbV at HMa hwA ⊢
  simp only at HMa HK hwA HE5 HFA HLp r1 m1 ⊢
  go_enter Tryz.func23, Tryz.ntmps23
  go_wp2_with fail
  rw [← hwA]
  refine hN.mono ?_
  rintro e w1 ⟨g1, F1, rfl, hS1, hF1, hb⟩
  have HS := hid hS1
  have HF := hid (HFt.out F1 hF1)
  have HV : Hid (Below wA.heap.size wA w1.drew) := hb.drew
  have HVs := hid hb
  clear hN hb hS1 hF1 hwA HFt
  go_wp2_with fail
  go_region_held3 (fun W : World => W.cell? ⟨w.heap.size, 0, none⟩ = some (.int .u64 sd) ∧ W.cell? ⟨w.heap.size, 1, none⟩ = some (.slice ap lp cp) ∧ W.cell? ⟨w.heap.size, 2, none⟩ = some (.int .i64 mo)) (first | (with_reducible exact HK.out _ HV.out) | (with_reducible exact HK.out _ HVs.out))
    (first
      | (go_at_call 30; (with_reducible refine (HC.out _ HV.out).mono ?_); rintro e w2 ⟨rfl, hb⟩; replace HV := hid (HV.out.trans (hb.mono HV.out.size)); replace HS := hid ((HS.out.below (Below.refl _ _).drew).below hb); clear hb)
      | (go_at_call 14; (with_reducible refine (HMa.out _ HV.out).mono ?_); rintro e w3 ⟨rfl, hb⟩; replace HV := hid (HV.out.trans (hb.mono HV.out.size)); replace HS := hid (HS.out.below hb); clear hb)
      | fail)
  have HLn : Hid (∀ q : Nat, Calls Tryz.prog 18 #[.pointer (some ⟨g1, 0, none⟩)] (w3.drewN q) fun e w' => e = .returned (.int .i64 1) ∧ w' = w3.drewN q) := fun q => by
    obtain ⟨g, pm, ta, tc, ha, hc', pq, e, h, _⟩ := HS.out.get
    cases e
    exact dlen_in (W := w3.drewN q) (h.below (W' := w3.drewN q) ⟨rfl, rfl, rfl, Nat.le_refl _, fun _ _ => rfl⟩)
  have HXd : Hid (∀ q : Nat, Below w.heap.size w (w3.drewN q)) := fun q => (HX.out _ HV.out).trans ⟨rfl, rfl, rfl, Nat.le_refl _, fun _ _ => rfl⟩
  have HVq : Hid (∀ q : Nat, Below wA.heap.size wA (w3.drewN q)) := fun q => HV.out.trans ⟨rfl, rfl, rfl, Nat.le_refl _, fun _ _ => rfl⟩
  have HSq : Hid (∀ q : Nat, StAt (w3.drewN q) (some ⟨g1, 0, none⟩) c [0] F1) := fun q => HS.out.below ⟨rfl, rfl, rfl, Nat.le_refl _, fun _ _ => rfl⟩
  obtain ⟨x0, x1, x2⟩ := HK.out _ HV.out
  clear HMa HC HVs
  cases bb with
  | false =>
    have HEn := hid (HE1.out w3 (HX.out _ HV.out) rfl)
    clear HE1 HE5 HFA HLn HXd HVq HSq HK HX
    go_wp2
    go_ret2
    exact HEn.out
  | true =>
    clear HE1
    obtain ⟨l255, o256⟩ := HLp.out rfl
    have hw1 : IntKind.i64.wrap (1 + (lp : Int)) = 1 + (lp : Int) := wrap_in (by omega) (by omega)
    by_cases hA : mo < (n : Int)
    · have d1 : decide (mo < (n : Int)) = true := decide_eq_true hA
      have HEn := hid fun q => HE5.out (w3.drewN q) (HXd.out q) rfl (.inl hA)
      clear HE5 HFA HXd HVq HSq HK HX
      go_wp2_with fail
      go_quiet (fail)
      go_wp2
      go_ret2
      exact HEn.out _
    · have d1 : decide (mo < (n : Int)) = false := decide_eq_false hA
      have hw2 : IntKind.i64.wrap (1 + (lp : Int) + (n : Int)) = 1 + (lp : Int) + (n : Int) := wrap_in (by omega) (by omega)
      by_cases hB : 255 < lp + n
      · have d2 : decide ((256 : Int) < 1 + (lp : Int) + (n : Int)) = true := decide_eq_true (by omega)
        have d3 : (256 : Int) < 1 + (lp : Int) + (n : Int) := by omega
        have HEn := hid fun q => HE5.out (w3.drewN q) (HXd.out q) rfl (.inr hB)
        clear HE5 HFA HXd HVq HSq HK HX
        go_wp2_with fail
        go_quiet ((go_at_call 18; exact Calls.quiet_of_same (HLn.out _)))
        go_wp2
        go_ret2
        exact HEn.out _
      · have d2 : decide ((256 : Int) < 1 + (lp : Int) + (n : Int)) = false := decide_eq_false (by omega)
        have d3 : ¬ (256 : Int) < 1 + (lp : Int) + (n : Int) := by omega
        have HCx := hid fun q => HK.out _ (HVq.out q)
        clear HE5 HXd HK HX
        go_wp2_with fail
        go_quiet ((go_at_call 18; exact Calls.quiet_of_same (HLn.out _)))
        obtain ⟨y0, y1, y2⟩ := HCx.out nq
        have HGo : Hid (∀ W : World, W = (w3.drewN nq).alloc (.cells #[.slice ap lp cp, .slice a n cap] 25) → _) := fun W hW => HFA.out w3.heap.size g1 F1 W (by trivial) (by omega) (by omega) (by rw [hW]; exact (HVq.out nq).alloc (HVq.out nq).size _) (by rw [hW]; exact (HSq.out nq).below ((Below.refl _ _).alloc (Nat.le_refl _) _)) HF.out (by rw [hW]; exact (new_two (w3.drewN nq) _ _ _).1) (by rw [hW]; exact (new_two (w3.drewN nq) _ _ _).2)
        clear HFA HVq HSq HCx HF HS HV HLn HLp
        go_wp2_with fail
        refine (HGo.out _ rfl).mono ?_
        rintro e w5 ⟨q5, m5, rfl, hP⟩
        have HP := hid hP
        clear hP HGo y0 y1 y2 x0 x1 x2
        go_wp2
        go_ret2
        exact HP.out
theorem dstart_no (p : Option Addr) (c : Cf) (j : Jb) (a : Option Addr) (n cap : Nat) (us : List Int) (w : World) (hp : MdAt w p c) (hc : mayB c = true) (hj : JbIn w j) (hu : Reads .i64 w a n cap us) (hm : mayJ c.vocab j.most j.ts = false) :
    Calls Tryz.prog 23 #[.pointer p, .agg (JbV j), .slice a n cap] w fun e w' => GivesE w 1 e w' := (dstart_all p c j a n cap us w hp hc hj hu).mono fun _ _ h => h.no hm
theorem dstart_many (p : Option Addr) (c : Cf) (j : Jb) (a : Option Addr) (n cap : Nat) (us : List Int) (w : World) (hp : MdAt w p c) (hc : mayB c = true) (hj : JbIn w j) (hu : Reads .i64 w a n cap us) (hm : mayJ c.vocab j.most j.ts = true) (hn : j.most < n ∨ 255 < j.lp + n) :
    Calls Tryz.prog 23 #[.pointer p, .agg (JbV j), .slice a n cap] w fun e w' => GivesE w 5 e w' := (dstart_all p c j a n cap us w hp hc hj hu).mono fun _ _ h => h.many hm hn
theorem dstart_arg (p : Option Addr) (c : Cf) (j : Jb) (a : Option Addr) (n cap : Nat) (us : List Int) (w : World) (hp : MdAt w p c) (hc : mayB c = true) (hj : JbIn w j) (hu : Reads .i64 w a n cap us) (hm : mayJ c.vocab j.most j.ts = true) (hn : n ≤ j.most) (hn2 : j.lp + n ≤ 255) (hb : ∃ i, i < n ∧ (us[i]?.getD 0 < 0 ∨ c.vocab ≤ us[i]?.getD 0)) :
    Calls Tryz.prog 23 #[.pointer p, .agg (JbV j), .slice a n cap] w fun e w' => GivesE w 1 e w' := (dstart_all p c j a n cap us w hp hc hj hu).mono fun _ _ h => h.arg hm hn hn2 hb
theorem dstart_yes (p : Option Addr) (c : Cf) (j : Jb) (a : Option Addr) (n cap : Nat) (us : List Int) (w : World) (hp : MdAt w p c) (hc : mayB c = true) (hj : JbIn w j) (hu : Reads .i64 w a n cap us) (hm : mayJ c.vocab j.most j.ts = true) (hn : n ≤ j.most) (hn2 : j.lp + n ≤ 255) (hb : ∀ i, i < n → 0 ≤ us[i]?.getD 0 ∧ us[i]?.getD 0 < c.vocab) :
    Calls Tryz.prog 23 #[.pointer p, .agg (JbV j), .slice a n cap] w fun e w' => GivesS w (mF p) c (0 :: j.ts ++ us) e w' := (dstart_all p c j a n cap us w hp hc hj hu).mono fun _ _ h => h.yes hm hn hn2 hb
end Go.Proofs.YtahpilgbabjebaaGreat
namespace Go.Proofs.YtahpilgbabjebaaGreat
open Go.RowKit
set_option linter.unusedVariables false
set_option maxRecDepth 1000000

/-- No token follows. -/
def FolNo (w : World) (e : Ending) (w' : World) : Prop := e = .returned (.tuple #[.int .i64 0, .bool false]) ∧ Below w.heap.size w w'
theorem fol_out (q : Option Addr) (j : Jb) (n : Int) (w : World) (hn : n < 0 ∨ j.most ≤ n) :
    Calls Tryz.prog 40 #[.pointer q, .agg (JbV j), .int .i64 n] w fun e w' => FolNo w e w' := by
  have HB : Hid (Below w.heap.size w (w.alloc (.cells (JbV j) 27))) := (Below.refl _ _).alloc (Nat.le_refl _) _
  obtain ⟨sd, ap, lp, cp, ts, mo⟩ := j
  unfold JbV at *
  simp only at *
  by_cases h1 : n < 0
  · clear hn
    go_enter Tryz.func40, Tryz.ntmps40
    go_wp2
    go_ret2
    exact ⟨rfl, HB.out⟩
  · have h2 : mo ≤ n := by omega
    clear hn
    go_enter Tryz.func40, Tryz.ntmps40
    go_wp2
    go_ret2
    exact ⟨rfl, HB.out⟩
/-- Next tells none. -/
theorem fol_none (q : Option Addr) (j : Jb) (n : Int) (w : World) (h0 : 0 ≤ n) (h1 : n < j.most) (hN : ∀ W : World, Below w.heap.size w W → Calls Tryz.prog 21 #[.pointer q, .int .u64 j.seed] W fun e w' => e = .returned (.tuple #[.int .i64 0, .bool false]) ∧ Below W.heap.size W w') :
    Calls Tryz.prog 40 #[.pointer q, .agg (JbV j), .int .i64 n] w fun e w' => FolNo w e w' := by
  have HB : Hid (Below w.heap.size w (w.alloc (.cells (JbV j) 27))) := (Below.refl _ _).alloc (Nat.le_refl _) _
  have hNx := hN _ HB.out
  obtain ⟨sd, ap, lp, cp, ts, mo⟩ := j
  unfold JbV at *
  simp only at *
  have h2 : ¬ n < 0 := by omega
  have h3 : ¬ mo ≤ n := by omega
  clear hN h0 h1
  go_enter Tryz.func40, Tryz.ntmps40
  go_wp2_with fail
  refine hNx.mono ?_
  rintro e w1 ⟨rfl, hb⟩
  have HV := hid (HB.out.trans (hb.mono HB.out.size))
  clear hNx hb HB
  go_wp2
  go_ret2
  exact ⟨rfl, HV.out⟩
/-- Next tells a token: it follows, if it is not 0. -/
theorem fol_told (q : Option Addr) (j : Jb) (n td : Int) (w : World) (h0 : 0 ≤ n) (h1 : n < j.most) (hN : ∀ W : World, Below w.heap.size w W → Calls Tryz.prog 21 #[.pointer q, .int .u64 j.seed] W fun e w' => e = .returned (.tuple #[.int .i64 td, .bool true]) ∧ Below W.heap.size W w') :
    Calls Tryz.prog 40 #[.pointer q, .agg (JbV j), .int .i64 n] w fun e w' => e = .returned (.tuple #[.int .i64 td, .bool (!decide (td = 0))]) ∧ Below w.heap.size w w' := by
  have HB : Hid (Below w.heap.size w (w.alloc (.cells (JbV j) 27))) := (Below.refl _ _).alloc (Nat.le_refl _) _
  have hNx := hN _ HB.out
  obtain ⟨sd, ap, lp, cp, ts, mo⟩ := j
  unfold JbV at *
  simp only at *
  have h2 : ¬ n < 0 := by omega
  have h3 : ¬ mo ≤ n := by omega
  clear hN h0 h1
  by_cases h4 : td = 0
  · subst h4
    rw [decide_eq_true rfl]
    go_enter Tryz.func40, Tryz.ntmps40
    go_wp2_with fail
    refine hNx.mono ?_
    rintro e w1 ⟨rfl, hb⟩
    have HV := hid (HB.out.trans (hb.mono HB.out.size))
    clear hNx hb HB
    go_wp2
    go_ret2
    exact ⟨rfl, HV.out⟩
  · rw [decide_eq_false h4]
    have h5 : (td == 0) = false := by simp [h4]
    have h6 : (td != 0) = true := by simp [h4]
    go_enter Tryz.func40, Tryz.ntmps40
    go_wp2_with fail
    refine hNx.mono ?_
    rintro e w1 ⟨rfl, hb⟩
    have HV := hid (HB.out.trans (hb.mono HB.out.size))
    clear hNx hb HB
    go_wp2
    go_ret2
    exact ⟨rfl, HV.out⟩

/-- What follows from a state on: the tokens, the state behind them, and whether nothing follows any more. -/
def GivesF (w : World) (F0 : Nat → Prop) (c : Cf) (seed : Int) (ts : List Int) (m k : Nat) (e : Ending) (w' : World) : Prop :=
  ∃ a cap g b F, e = .returned (.tuple #[.slice a (refL c seed ts (min m k)).length cap, .pointer (some ⟨g, 0, none⟩), .bool b]) ∧ Reads .i64 w' a (refL c seed ts (min m k)).length cap (refL c seed ts (min m k)) ∧ StAt w' (some ⟨g, 0, none⟩) c (ts ++ refL c seed ts (min m k)) F ∧ (∀ k, F k → F0 k ∨ w.heap.size ≤ k ∨ NotInt w k) ∧
    (b = true → refL c seed (ts ++ refL c seed ts (min m k)) (m - (refL c seed ts (min m k)).length) = []) ∧ (b = false → (refL c seed ts (min m k)).length = k) ∧ Below w.heap.size w w'

/-- Where nothing follows at once. -/
theorem from_stop (p q : Option Addr) (j : Jb) (n most : Int) (w : World) (b0 : -9223372036854775808 ≤ n) (b1 : n ≤ 9223372036854775807) (hF : ∀ W : World, Below w.heap.size w W → Calls Tryz.prog 40 #[.pointer q, .agg (JbV j), .int .i64 n] W fun e w' => FolNo W e w') :
    Calls Tryz.prog 24 #[.pointer p, .agg (JbV j), .pointer q, .int .i64 n, .int .i64 most] w fun e w' => ∃ a cap, e = .returned (.tuple #[.slice a 0 cap, .pointer q, .bool true]) ∧ Reads .i64 w' a 0 cap [] ∧ Below w.heap.size w w' := by
  obtain ⟨wA, hwA⟩ : ∃ wA, wA = w.alloc (.cells (JbV j) 27) := ⟨_, rfl⟩
  have HB0 : Hid (Below w.heap.size w wA) := by unfold Hid; rw [hwA]; exact (Below.refl _ _).alloc (Nat.le_refl _) _
  have hFo := hF _ HB0.out
  obtain ⟨x0, x1, x2⟩ := Jb_cells (show wA.heap[w.heap.size]? = some (.cells (JbV j) 27 (0, 0)) by rw [hwA]; exact heap_alloc_new w _)
  obtain ⟨sd, ap, lp, cp, ts, mo⟩ := j
  unfold JbV at *
  simp only at *
  have hw : wrap64 n = n := by unfold wrap64; omega
  clear hF
  go_enter Tryz.func24, Tryz.ntmps24
  go_wp2_with fail
  rw [← hwA]
  clear hwA
  go_loopw [2, 13] (fun u v W => u = .pointer q ∧ v = .slice none 0 0 ∧ Hid (W = wA)) (fun _ _ _ => 0)
  case atStart => exact ⟨rfl, rfl, rfl⟩
  case round =>
  obtain ⟨rfl, rfl, HW⟩ := hrel
  have hW := HW.out
  subst hW
  clear HW
  go_wp2_with fail
  refine hFo.mono ?_
  rintro e w1 ⟨rfl, hb⟩
  have HV := hid (HB0.out.trans (hb.mono HB0.out.size))
  clear hFo hb HB0 x0 x1 x2
  go_wp2
  go_ret3
  exact ⟨_, _, rfl, Reads.nil _ _, HV.out⟩
theorem dfrom_nil (p : Option Addr) (j : Jb) (most : Int) (w : World) (hj : JbIn w j) :
    Calls Tryz.prog 24 #[.pointer p, .agg (JbV j), .pointer none, .int .i64 0, .int .i64 most] w fun e w' => ∃ a cap, e = .returned (.tuple #[.slice a 0 cap, .pointer none, .bool true]) ∧ Below w.heap.size w w' := by
  refine (from_stop p none j 0 most w (by omega) (by omega) fun W hb => ?_).mono fun e w' ⟨a, cap, h1, _, h3⟩ => ⟨a, cap, h1, h3⟩
  by_cases h : 0 < j.most
  · exact fol_none none j 0 W (by omega) h fun W' hb' => dnext_nil j.seed W'
  · exact fol_out none j 0 W (by omega)
theorem dfrom_end {F : Nat → Prop} (p q : Option Addr) (c : Cf) (j : Jb) (ts : List Int) (n most : Int) (w : World) (hp : MdAt w p c) (hc : mayB c = true) (hj : JbIn w j) (hs : StAt w q c ts F) (hn : n < 0 ∨ j.most ≤ n) (b0 : -9223372036854775808 ≤ n) (b1 : n ≤ 9223372036854775807) :
    Calls Tryz.prog 24 #[.pointer p, .agg (JbV j), .pointer q, .int .i64 n, .int .i64 most] w fun e w' => ∃ a cap, e = .returned (.tuple #[.slice a 0 cap, .pointer q, .bool true]) ∧ Reads .i64 w' a 0 cap [] ∧ Below w.heap.size w w' :=
  from_stop p q j n most w b0 b1 fun W hb => fol_out q j n W hn

set_option maxHeartbeats 2000000 in
theorem dfrom_go {F : Nat → Prop} (p q : Option Addr) (c : Cf) (j : Jb) (ts : List Int) (n k m : Nat) (w : World) (hp : MdAt w p c) (hc : mayB c = true) (hj : JbIn w j) (hs : StAt w q c ts F) (hn : j.most = (n + m : Nat)) (hm : 0 < m) (hM : j.most ≤ 256) (hk : k ≤ 1000) :
    Calls Tryz.prog 24 #[.pointer p, .agg (JbV j), .pointer q, .int .i64 n, .int .i64 k] w fun e w' => GivesF w (fun x => F x ∨ mF p x) c j.seed ts m k e w' := by
  obtain ⟨i0, hi, hz0, hz1, hz2⟩ := info_parts Tryz.info3
  obtain ⟨wA, hwA⟩ : ∃ wA, wA = w.alloc (.cells (JbV j) 27) := ⟨_, rfl⟩
  have HB0 : Hid (Below w.heap.size w wA) := by unfold Hid; rw [hwA]; exact (Below.refl _ _).alloc (Nat.le_refl _) _
  have HK := hid fun (W : World) (hb : Below wA.heap.size wA W) => Jb_cells (block_below (show wA.heap[w.heap.size]? = some (.cells (JbV j) 27 (0, 0)) by rw [hwA]; exact heap_alloc_new w _) hb)
  obtain ⟨g0, rfl⟩ := hs.ptr
  have HX : Hid (∀ W : World, Below wA.heap.size wA W → Below w.heap.size w W) := fun W hW => HB0.out.trans (hW.mono HB0.out.size)
  have HN256 : Hid (n + m ≤ 256) := by unfold Hid; omega
  have HS0 : Hid (StAt wA (some ⟨g0, 0, none⟩) c (ts ++ []) F) := by unfold Hid; rw [List.append_nil]; exact hs.below HB0.out
  obtain ⟨M, hMM⟩ : ∃ M, min m k = M := ⟨_, rfl⟩
  have hMm : M ≤ m := by omega
  have hMk : M ≤ k := by omega
  have hMor : M = m ∨ M = k := by omega
  have HMor := hid hMor
  have HO := hid fun (l : Nat) (g : Nat) (W : World) (h : m ≤ l) => fol_out (some ⟨g, 0, none⟩) j ((n : Int) + (l : Int)) W (by omega)
  have HFu := hid fun (l : Nat) (g : Nat) (us : List Int) (F' : Nat → Prop) (W : World) (h : l < m) (hS : StAt W (some ⟨g, 0, none⟩) c (ts ++ us) F') (hl : (ts ++ us).length = 256) => fol_none (some ⟨g, 0, none⟩) j ((n : Int) + (l : Int)) W (by omega) (by omega) fun W' hb => dnext_full _ c _ j.seed W' (hS.below hb) hc hl
  have HTo := hid fun (l : Nat) (g : Nat) (us : List Int) (F' : Nat → Prop) (W : World) (h : l < m) (hS : StAt W (some ⟨g, 0, none⟩) c (ts ++ us) F') (hl : (ts ++ us).length < 256) => fol_told (some ⟨g, 0, none⟩) j ((n : Int) + (l : Int)) _ W (by omega) (by omega) fun W' hb => dnext_yes _ c _ j.seed W' (hS.below hb) hc hl
  have HBd := hid fun (us : List Int) => told_bd hc (ts ++ us) j.seed
  have HFd := hid fun (g : Nat) (us : List Int) (F' : Nat → Prop) (W : World) (hS : StAt W (some ⟨g, 0, none⟩) c (ts ++ us) F') (hl : (ts ++ us).length < 256) => dfeed_yes (some ⟨g, 0, none⟩) c (ts ++ us) (toldZ c (ts ++ us) j.seed) W hS hc (HBd.out us).1 (HBd.out us).2 hl
  have HE : Hid (∀ (us : List Int) (e : Ending) (W : World), (refL c j.seed ts M = us → (∃ a cap g b F', e = .returned (.tuple #[.slice a us.length cap, .pointer (some ⟨g, 0, none⟩), .bool b]) ∧ Reads .i64 W a us.length cap us ∧ StAt W (some ⟨g, 0, none⟩) c (ts ++ us) F' ∧ (∀ x, F' x → (F x ∨ mF p x) ∨ w.heap.size ≤ x ∨ NotInt w x) ∧ (b = true → refL c j.seed (ts ++ us) (m - us.length) = []) ∧ (b = false → us.length = k) ∧ Below w.heap.size w W) → GivesF w (fun x => F x ∨ mF p x) c j.seed ts m k e W)) := by
    rintro us e W rfl h
    unfold GivesF
    rw [hMM]
    exact h
  have HR0 : Hid (refL c j.seed ts M = [] ++ refL c j.seed (ts ++ []) (M - 0)) := by unfold Hid; rw [List.append_nil, List.nil_append, Nat.sub_zero]
  have HSt : Hid (∀ us r, (256 ≤ (ts ++ us).length ∨ toldZ c (ts ++ us) j.seed = 0) → refL c j.seed (ts ++ us) r = []) := fun us r h => refL_stop (.inr h)
  have HGo : Hid (∀ us r, (ts ++ us).length < 256 → toldZ c (ts ++ us) j.seed ≠ 0 → refL c j.seed (ts ++ us) (r + 1) = toldZ c (ts ++ us) j.seed :: refL c j.seed (ts ++ (us ++ [toldZ c (ts ++ us) j.seed])) r) := fun us r h1 h2 => by rw [refL_go h1 h2, List.append_assoc]
  have HR00 : Hid (∀ us, refL c j.seed (ts ++ us) 0 = []) := fun us => rfl
  have hm256 : m ≤ 256 := by omega
  have hn256 : n ≤ 256 := by omega
  clear hs hp hc hj hn hm hM hMM hMor
  obtain ⟨R, hR⟩ : ∃ R : List Int → Nat → List Int, R = refL c j.seed := ⟨_, rfl⟩
  obtain ⟨T, hT⟩ : ∃ T : List Int → Int, T = fun us => toldZ c (ts ++ us) j.seed := ⟨_, rfl⟩
  have hTk : ∀ us, toldZ c (ts ++ us) j.seed = T us := fun us => by rw [hT]
  simp only [hTk] at HTo HBd HFd HSt HGo
  rw [← hR] at HE HR0 HSt HGo HR00
  clear hR hT hTk
  obtain ⟨sd, ap, lp, cp, pts, mo⟩ := j
  unfold JbV at HO HFu HTo hwA ⊢
  simp only at HK HO HFu HTo hwA HE ⊢
  go_enter Tryz.func24, Tryz.ntmps24
  go_wp2_with fail
  rw [← hwA]
  clear hwA
  go_loopw [2, 13] (fun u v W => ∃ (g l : Nat) (us : List Int) (F' : Nat → Prop), l ≤ M ∧ u = .pointer (some ⟨g, 0, none⟩) ∧ Hid (us.length = l) ∧ Hid (StAt W (some ⟨g, 0, none⟩) c (ts ++ us) F') ∧ Hid (∀ x, F' x → F x ∨ wA.heap.size ≤ x ∨ NotInt wA x) ∧ Hid (W.ownsRow wA.heap.size 3 1 v l (us.map (Value.int .i64))) ∧ Hid (∀ b, v.ownBlock = some b → ¬ F' b) ∧ Hid (R ts M = us ++ R (ts ++ us) (M - l)) ∧ Hid (Below wA.heap.size wA W)) (fun _ v _ => M - slen v)
  case atStart => exact ⟨g0, 0, [], F, Nat.zero_le _, rfl, rfl, HS0, fun x hx => .inl hx, World.ownsRow_nil _ _ _ _, fun b hb => by simp [Value.ownBlock] at hb, HR0, Below.refl _ _⟩
  case round =>
  obtain ⟨g, l, us, F', hus, rfl, HLl, HS, HF, HOw, HAp, HRe, HW⟩ := hrel
  rename World => wr
  clear HS0 HR0
  obtain ⟨av, cv, rfl, hrv⟩ := Reads.own (k := .i64) HOw.out
  have HRd := hid hrv
  have r5 := hrv.room
  have m5 := hrv.most
  clear hrv
  obtain ⟨x0, x1, x2⟩ := HK.out _ HW.out
  have hl := HLl.out
  have HFt := hid (foot_trans (F := fun x => F x ∨ mF p x) HB0.out (fun k hk => .inl (.inl hk)) HF.out)
  have hbm := HS.out.most
  have hw : IntKind.i64.wrap ((n : Int) + (l : Int)) = (n : Int) + (l : Int) := wrap_in (by omega) (by omega)
  have hEnd : R (ts ++ us) (M - l) = [] → R ts M = us := fun h => by rw [HRe.out, h, List.append_nil]
  have HEnd := hid hEnd
  replace HE := hid (HE.out us)
  rw [hl] at HE
  clear hEnd
  by_cases hA : m ≤ l
  · have hFo := HO.out l g wr hA
    have HEq : Hid (R ts M = us) := HEnd.out (by rw [show M - l = 0 by omega]; exact HR00.out us)
    have HNo : Hid (R (ts ++ us) (m - l) = []) := by unfold Hid; rw [show m - l = 0 by omega]; exact HR00.out us
    clear HO HFu HTo HBd HFd HSt HGo HEnd HK HMor hl
    go_wp2_with fail
    refine hFo.mono ?_
    rintro e w1 ⟨rfl, hb⟩
    have HV1 := hid (HX.out _ (HW.out.trans (hb.mono HW.out.size)))
    have HRd1 := hid (HRd.out.below hb)
    have HS1 := hid (HS.out.below hb)
    clear hFo hb HW HRd HS x0 x1 x2
    go_wp2
    go_ret3
    exact HE.out _ _ HEq.out ⟨_, _, _, _, _, rfl, HRd1.out, HS1.out, HFt.out, fun _ => HNo.out, (fun h => by cases h), HV1.out⟩
  by_cases hB : (ts ++ us).length = 256
  · have hFo := HFu.out l g us F' wr (by omega) HS.out hB
    have HEq : Hid (R ts M = us) := HEnd.out (HSt.out us _ (.inl (by omega)))
    have HNo : Hid (R (ts ++ us) (m - l) = []) := HSt.out us _ (.inl (by omega))
    clear HO HFu HTo HBd HFd HSt HGo HEnd HK HMor hl hB
    go_wp2_with fail
    refine hFo.mono ?_
    rintro e w1 ⟨rfl, hb⟩
    have HV1 := hid (HX.out _ (HW.out.trans (hb.mono HW.out.size)))
    have HRd1 := hid (HRd.out.below hb)
    have HS1 := hid (HS.out.below hb)
    clear hFo hb HW HRd HS x0 x1 x2
    go_wp2
    go_ret3
    exact HE.out _ _ HEq.out ⟨_, _, _, _, _, rfl, HRd1.out, HS1.out, HFt.out, fun _ => HNo.out, (fun h => by cases h), HV1.out⟩
  have hB2 : (ts ++ us).length < 256 := by omega
  have hFo := HTo.out l g us F' wr (by omega) HS.out hB2
  by_cases h0 : T us = 0
  · have HEq : Hid (R ts M = us) := HEnd.out (HSt.out us _ (.inr h0))
    have HNo : Hid (R (ts ++ us) (m - l) = []) := HSt.out us _ (.inr h0)
    rw [decide_eq_true h0, Bool.not_true] at hFo
    clear HO HFu HTo HBd HFd HSt HGo HEnd HK HMor hl hB hB2 h0
    generalize T us = td at *
    go_wp2_with fail
    refine hFo.mono ?_
    rintro e w1 ⟨rfl, hb⟩
    have HV1 := hid (HX.out _ (HW.out.trans (hb.mono HW.out.size)))
    have HRd1 := hid (HRd.out.below hb)
    have HS1 := hid (HS.out.below hb)
    clear hFo hb HW HRd HS x0 x1 x2
    go_wp2
    go_ret3
    exact HE.out _ _ HEq.out ⟨_, _, _, _, _, rfl, HRd1.out, HS1.out, HFt.out, fun _ => HNo.out, (fun h => by cases h), HV1.out⟩
  rw [decide_eq_false h0, Bool.not_false] at hFo
  by_cases hC : k ≤ l
  · have HEq : Hid (R ts M = us) := HEnd.out (by rw [show M - l = 0 by omega]; exact HR00.out us)
    have hCi : (k : Int) ≤ (l : Int) := by omega
    have HlK : Hid (l = k) := by unfold Hid; omega
    clear HO HFu HTo HBd HFd HSt HGo HEnd HK HMor hl hB hB2 h0
    generalize T us = td at *
    go_wp2_with fail
    refine hFo.mono ?_
    rintro e w1 ⟨rfl, hb⟩
    have HV1 := hid (HX.out _ (HW.out.trans (hb.mono HW.out.size)))
    have HRd1 := hid (HRd.out.below hb)
    have HS1 := hid (HS.out.below hb)
    clear hFo hb HW HRd HS x0 x1 x2
    go_wp2
    go_ret3
    exact HE.out _ _ HEq.out ⟨_, _, _, _, _, rfl, HRd1.out, HS1.out, HFt.out, (fun h => by cases h), fun _ => HlK.out, HV1.out⟩
  have hCi : ¬ (k : Int) ≤ (l : Int) := by omega
  have hlM : l < M := by rcases HMor.out with h | h <;> omega
  have HRn : Hid (R ts M = (us ++ [T us]) ++ R (ts ++ (us ++ [T us])) (M - (l + 1))) := by
    unfold Hid
    have e1 : M - l = (M - (l + 1)) + 1 := by omega
    rw [HRe.out, e1, HGo.out us _ hB2 h0, List.append_assoc]
    rfl
  have HFd2 := hid fun (W : World) (hS : StAt W (some ⟨g, 0, none⟩) c (ts ++ us) F') => HFd.out g us F' W hS hB2
  have HAs : Hid ((ts ++ us) ++ [T us] = ts ++ (us ++ [T us])) := List.append_assoc _ _ _
  have HLn : Hid ((us ++ [T us]).length = l + 1) := by unfold Hid; simp [hl]
  have HMp : Hid ((us ++ [T us]).map (Value.int .i64) = us.map (Value.int .i64) ++ [.int .i64 (T us)]) := by unfold Hid; simp
  rw [HAs.out] at HFd2
  clear HO HFu HTo HBd HFd HSt HGo HEnd HK HMor hl hB hB2 h0 HE HRe HFt HAs hbm
  generalize us ++ [T us] = vs at *
  generalize T us = td at *
  go_wp2_with fail
  refine hFo.mono ?_
  rintro e w1 ⟨rfl, hb⟩
  have HS1 := hid (HS.out.below hb)
  have HO1 := hid (own_below HOw.out hb)
  have HW1 := hid (HW.out.trans (hb.mono HW.out.size))
  clear hFo hb HW HRd HS x0 x1 x2 HOw
  go_wp2_with fail
  refine (HFd2.out _ HS1.out).mono ?_
  rintro e w2 ⟨g2, F2, rfl, hS2, hF2, hb⟩
  have HS2 := hid hS2
  have HF2 := hid (foot_trans HW1.out HF.out hF2)
  have HA2 : Hid (∀ b, (Value.slice av l cv).ownBlock = some b → ¬ F2 b) := fun b hb' hx => by
    rcases hF2 b hx with h | h | h
    · exact HAp.out b hb' h
    · have := (HO1.out.lt b hb').2
      omega
    · exact NotInt.own HO1.out hb' h
  have HAl : Hid (Below w2.heap.size w2 (w2.alloc (.cells #[.int .i64 td] 3))) := (Below.refl _ _).alloc (Nat.le_refl _) _
  have HO2 := hid (own_below (own_below HO1.out hb) HAl.out)
  have HW2 := hid (HW1.out.trans (hb.mono HW1.out.size))
  have HW3 := hid (HW2.out.trans (HAl.out.mono HW2.out.size))
  have HSz := hid HW3.out.size
  have hc1 := cell_new1 w2 (.int .i64 td) 3
  clear hS2 hF2 hb HS1 HF HO1 HW1 HAp HFd2
  go_wp2_with (at_builtin; refine append_one2 _ rfl (.tmp 44) (.tmp 46) 25 rfl wA.heap.size 3 i0 (.int .i64 0) 8 Tryz.underlying25 hi hz0 hz1 hz2 rfl (by decide) _ l (us.map (Value.int .i64)) rfl HO2.out (by omega) w2.heap.size (.int .i64 td) rfl rfl hc1 HSz.out ?_; intro v5 w5 hO5 hg5 hm5)
  obtain ⟨hS5, hA5⟩ := HS2.out.grown HAl.out hg5 hm5 HA2.out
  have HS5 := hid hS5
  have HA5 := hid hA5
  have HO5 : Hid (w5.ownsRow wA.heap.size 3 1 v5 (l + 1) (vs.map (Value.int .i64))) := by unfold Hid; rw [HMp.out]; exact hO5
  have HW5 : Hid (Below wA.heap.size wA w5) := HW3.out.grown hg5 HSz.out fun b hb' => (HO2.out.lt b hb').1
  have HSl : Hid (slen v5 = l + 1) := own_slen hO5
  clear hO5 hg5 hm5 hS5 hA5 HS2 HA2 HAl HO2 HW2 HW3 HSz hc1
  go_wp2_with fail
  go_round
  case rel => exact ⟨g2, l + 1, vs, F2, by omega, rfl, HLn, HS5, HF2, HO5, HA5, HRn, HW5⟩
  case measure => rw [HSl.out]; simp only [slen]; omega

/-- Where Start refuses. -/
theorem ref_err (p : Option Addr) (j : Jb) (m : Int) (w : World) (h0 : m ≠ 0) (hS : ∀ W : World, Below w.heap.size w W → Calls Tryz.prog 23 #[.pointer p, .agg (JbV j), .slice none 0 0] W fun e w' => GivesE W m e w') :
    Calls Tryz.prog 11 #[.pointer p, .agg (JbV j)] w fun e w' => e = .returned (.tuple #[.slice none 0 0, .int .i64 m]) ∧ Below w.heap.size w w' := by
  obtain ⟨wA, hwA⟩ : ∃ wA, wA = w.alloc (.cells (JbV j) 27) := ⟨_, rfl⟩
  have HB0 : Hid (Below w.heap.size w wA) := by unfold Hid; rw [hwA]; exact (Below.refl _ _).alloc (Nat.le_refl _) _
  have hSt := hS _ HB0.out
  obtain ⟨sd, ap, lp, cp, ts, mo⟩ := j
  unfold JbV at *
  simp only at *
  clear hS
  have h1 : (m == 0) = false := by simp [h0]
  have h2 : (m != 0) = true := by simp [h0]
  go_enter Tryz.func11, Tryz.ntmps11
  go_wp2_with fail
  rw [← hwA]
  refine hSt.mono ?_
  rintro e w1 ⟨rfl, hb⟩
  have HV := hid (HB0.out.trans (hb.mono HB0.out.size))
  clear hSt hb HB0 hwA
  go_wp2
  go_ret2
  exact ⟨rfl, HV.out⟩
theorem dref_nil (j : Jb) (w : World) (hj : JbIn w j) :
    Calls Tryz.prog 11 #[.pointer none, .agg (JbV j)] w fun e w' => ∃ v, e = .returned (.tuple #[v, .int .i64 2]) ∧ Below w.heap.size w w' :=
  (ref_err none j 2 w (by decide) fun W hb => dstart_nil j none 0 0 W).mono fun e w' ⟨h1, h2⟩ => ⟨_, h1, h2⟩
theorem dref_no (p : Option Addr) (c : Cf) (j : Jb) (w : World) (hp : MdAt w p c) (hc : mayB c = true) (hj : JbIn w j) (hm : mayJ c.vocab j.most j.ts = false) :
    Calls Tryz.prog 11 #[.pointer p, .agg (JbV j)] w fun e w' => ∃ a cap, e = .returned (.tuple #[.slice a 0 cap, .int .i64 1]) ∧ Below w.heap.size w w' :=
  (ref_err p j 1 w (by decide) fun W hb => dstart_no p c j none 0 0 [] W (hp.below hb) hc (Reads.below hj hb) (Reads.nil _ _) hm).mono fun e w' ⟨h1, h2⟩ => ⟨_, _, h1, h2⟩
set_option maxHeartbeats 1000000 in
theorem dref_yes (p : Option Addr) (c : Cf) (j : Jb) (w : World) (hp : MdAt w p c) (hc : mayB c = true) (hj : JbIn w j) (hm : mayJ c.vocab j.most j.ts = true) :
    Calls Tryz.prog 11 #[.pointer p, .agg (JbV j)] w fun e w' => ∃ a cap, e = .returned (.tuple #[.slice a (refL c j.seed (0 :: j.ts) j.most.toNat).length cap, .int .i64 0]) ∧ Reads .i64 w' a (refL c j.seed (0 :: j.ts) j.most.toNat).length cap (refL c j.seed (0 :: j.ts) j.most.toNat) ∧ Below w.heap.size w w' := by
  obtain ⟨wA, hwA⟩ : ∃ wA, wA = w.alloc (.cells (JbV j) 27) := ⟨_, rfl⟩
  have HB0 : Hid (Below w.heap.size w wA) := by unfold Hid; rw [hwA]; exact (Below.refl _ _).alloc (Nat.le_refl _) _
  have HK := hid fun (W : World) (hb : Below wA.heap.size wA W) => Jb_cells (block_below (show wA.heap[w.heap.size]? = some (.cells (JbV j) 27 (0, 0)) by rw [hwA]; exact heap_alloc_new w _) hb)
  obtain ⟨p0, p1, p2, p3⟩ := mayJ_iff.1 hm
  have hzj := hj.size
  have hSt := dstart_yes p c j none 0 0 [] wA (hp.below HB0.out) hc (Reads.below hj HB0.out) (Reads.nil _ _) hm (by omega) (by omega) (fun i hi => absurd hi (by omega))
  rw [List.append_nil] at hSt
  have HFr : Hid (∀ (g : Nat) (F : Nat → Prop) (W : World), Below wA.heap.size wA W → StAt W (some ⟨g, 0, none⟩) c (0 :: j.ts) F → Calls Tryz.prog 24 #[.pointer p, .agg (JbV j), .pointer (some ⟨g, 0, none⟩), .int .i64 0, .int .i64 j.most] W fun e w' => ∃ a cap q b, e = .returned (.tuple #[.slice a (refL c j.seed (0 :: j.ts) j.most.toNat).length cap, .pointer q, .bool b]) ∧ Reads .i64 w' a (refL c j.seed (0 :: j.ts) j.most.toNat).length cap (refL c j.seed (0 :: j.ts) j.most.toNat) ∧ Below W.heap.size W w') := by
    intro g F W hb hS
    have hp' := (hp.below HB0.out).below hb
    have hj' : JbIn W j := Reads.below (Reads.below hj HB0.out) hb
    by_cases h0 : j.most = 0
    · have h1 := dfrom_end p (some ⟨g, 0, none⟩) c j (0 :: j.ts) 0 j.most W hp' hc hj' hS (by omega) (by omega) (by omega)
      have e0 : refL c j.seed (0 :: j.ts) j.most.toNat = [] := by rw [h0]; rfl
      rw [e0]
      exact h1.mono fun e w' ⟨a, cap, k1, k2, k3⟩ => ⟨a, cap, _, _, k1, k2, k3⟩
    · have h1 := dfrom_go p (some ⟨g, 0, none⟩) c j (0 :: j.ts) 0 j.most.toNat j.most.toNat W hp' hc hj' hS (by omega) (by omega) (by omega) (by omega)
      rw [Int.toNat_of_nonneg p0] at h1
      refine h1.mono ?_
      rintro e w' ⟨a, cap, g5, b, F5, k1, k2, k3, k4, k5, k6, k7⟩
      rw [Nat.min_self] at k1 k2
      exact ⟨a, cap, _, _, k1, k2, k7⟩
  clear hp hc hj hm p3 hzj
  generalize refL c j.seed (0 :: j.ts) j.most.toNat = rs at *
  obtain ⟨sd, ap, lp, cp, ts, mo⟩ := j
  unfold JbV at hSt HFr hwA ⊢
  simp only at HK hSt HFr hwA ⊢
  go_enter Tryz.func11, Tryz.ntmps11
  go_wp2_with fail
  rw [← hwA]
  refine hSt.mono ?_
  rintro e w1 ⟨g1, F1, rfl, hS1, hF1, hb⟩
  have hFr := HFr.out g1 F1 w1 hb hS1
  have HV := hid (HB0.out.trans (hb.mono HB0.out.size))
  obtain ⟨x0, x1, x2⟩ := HK.out _ hb
  clear hSt hb HB0 hwA HFr HK hS1 hF1
  go_wp2_with fail
  refine hFr.mono ?_
  rintro e w2 ⟨a2, c2, q2, b2, rfl, hr, hb⟩
  have HR := hid hr
  replace HV := hid (HV.out.trans (hb.mono HV.out.size))
  clear hFr hr hb x0 x1 x2
  go_wp2
  go_ret2
  exact ⟨_, _, rfl, HR.out, HV.out⟩
end Go.Proofs.YtahpilgbabjebaaGreat
