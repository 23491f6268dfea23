/-
  Both trees side by side; same.
-/
import Derived.Test.YtdchoegaindnbaaRpFor
import Derived.Test.YtdchoegaindnbaaRpMat
import Derived.Test.YtdchoegaindnbaaRpCls
namespace Go.Proofs.Ytdchoegaindnbaa
open Go.RowKit Go.Maps Go.Shelf
set_option linter.unusedVariables false
set_option maxRecDepth 1000000

/-- The program's tree, the document's, and a step. -/
structure PlG (w : World) (B room size M : Nat) (T : Int) (L : List Mk) (B2 : Nat) (T2 : Int) (v : Value) (qs : List Rk) (sb : Nat) (kd : Int) (ap : Option Addr) (lp cp : Nat) (rp : Int) (W : World) : Prop where
  g : PtG w B room size M T L sb kd ap lp cp rp W
  rt : RtAt W B2 room size T2 v qs
  apt : ∀ k, trF B M L k → ¬ rtF B2 v qs k
  lo2 : ∀ k, rtF B2 v qs k → w.heap.size ≤ k
  off2 : ¬ rtF B2 v qs sb
theorem PlG.below {w : World} {B room size M : Nat} {T : Int} {L : List Mk} {B2 : Nat} {T2 : Int} {v : Value} {qs : List Rk} {sb : Nat} {kd : Int} {ap : Option Addr} {lp cp : Nat} {rp : Int} {W W' : World} (h : PlG w B room size M T L B2 T2 v qs sb kd ap lp cp rp W) (hb : Below W.heap.size W W') : PlG w B room size M T L B2 T2 v qs sb kd ap lp cp rp W' :=
  ⟨h.g.below hb, h.rt.below hb, h.apt, h.lo2, h.off2⟩
theorem PlG.left {w : World} {B room size M : Nat} {T T' : Int} {L L' : List Mk} {B2 : Nat} {T2 : Int} {v : Value} {qs : List Rk} {sb : Nat} {kd : Int} {ap : Option Addr} {lp cp : Nat} {rp : Int} {W W' : World} (h : PlG w B room size M T L B2 T2 v qs sb kd ap lp cp rp W) (ho : TrO W B room size M L T' L' W') : PlG w B room size M T' L' B2 T2 v qs sb kd ap lp cp rp W' := by
  refine ⟨h.g.step ho, h.rt.same fun k hk => ho.2.1.block k (h.rt.lts hk) fun hF => h.apt k hF hk, fun k hk hr => ?_, h.lo2, h.off2⟩
  have := h.rt.lts hr
  rcases hk with rfl | rfl | ⟨m, hm, rfl⟩
  · exact h.apt _ (.inl rfl) hr
  · exact h.apt _ (.inr (.inl rfl)) hr
  · rcases ho.2.2 m hm with ⟨x, hx, e⟩ | h1
    · exact h.apt _ (.inr (.inr ⟨x, hx, e⟩)) hr
    · omega
theorem PlG.right {w : World} {B room size M : Nat} {T : Int} {L : List Mk} {B2 : Nat} {T2 T2' : Int} {v : Value} {qs qs' : List Rk} {sb : Nat} {kd : Int} {ap : Option Addr} {lp cp : Nat} {rp : Int} {W W' : World} (h : PlG w B room size M T L B2 T2 v qs sb kd ap lp cp rp W) (ho : PutW W B2 room size T2' v qs qs' W') : ∃ v', PlG w B room size M T L B2 T2' v' qs' sb kd ap lp cp rp W' := by
  obtain ⟨v', h1, h2, h3, h4⟩ := ho
  have hrc : ∀ k, rcF B2 v k → w.heap.size ≤ k := fun k hk => h.lo2 k (.inl hk)
  refine ⟨v', ⟨⟨h.g.st.tr.fb h4 fun k hk hr => h.apt k hk (.inl hr), h.g.st.lo, h.g.st.bel.trans (h4.to hrc h.g.st.bel.size)⟩, h4.one h.g.blk fun hr => h.off2 (.inl hr), h.g.off⟩, h1, fun k hk hr => ?_, fun k hk => ?_, fun hk => ?_⟩
  · rcases h2 k hr with h5 | h5
    · exact h.apt k hk h5
    · have := h.g.st.tr.lts hk; omega
  · rcases h2 k hk with h5 | h5
    · exact h.lo2 k h5
    · exact Nat.le_trans h.g.st.bel.size h5
  · rcases h2 sb hk with h5 | h5
    · exact h.off2 h5
    · have := lt_of_block h.g.blk; omega
theorem PlG.aft2 {w : World} {B room size M : Nat} {T : Int} {L : List Mk} {B2 : Nat} {T2 : Int} {v : Value} {qs : List Rk} {sb : Nat} {kd : Int} {ap : Option Addr} {lp cp : Nat} {rp : Int} {W : World} (h : PlG w B room size M T L B2 T2 v qs sb kd ap lp cp rp W) {a : Option Addr} {len cap : Nat} {ts : List Int} (hr : Reads .i64 w a len cap ts) {n : Nat} (hn : n ≤ len) : Aft n a (rcF B2 v) := fun h0 ad e hF => by
  obtain ⟨b, off, e2, hc⟩ := hr.cell 0 (by omega)
  rw [e] at e2
  cases e2
  have h1 := World.block_lt_of_cell? _ _ hc
  have h2 := h.lo2 _ (.inl hF)
  simp at h1 h2
  omega
/-- Between the steps. -/
structure PlS (w : World) (B room size M : Nat) (T : Int) (L : List Mk) (B2 : Nat) (v : Value) (qs : List Rk) (W : World) : Prop where
  st : PtS w B room size M T L W
  rt : RtAt W B2 room size T v qs
  apt : ∀ k, trF B M L k → ¬ rtF B2 v qs k
  lo2 : ∀ k, rtF B2 v qs k → w.heap.size ≤ k
  lk : (qs.map Rk.em).Perm (L.map Mk.tr)
  cl : Cls size L
theorem PlS.step {w : World} {B room size M : Nat} {T : Int} {L : List Mk} {B2 : Nat} {v : Value} {qs : List Rk} {W W' : World} (h : PlS w B room size M T L B2 v qs W) {kd : Int} {ap : Option Addr} {lp cp : Nat} {rp : Int} (hW : W' = W.alloc (.cells #[.int .u8 kd, .slice ap lp cp, .int .u64 rp] 35)) : PlG w B room size M T L B2 T v qs W.heap.size kd ap lp cp rp W' :=
  ⟨PtG.new h.st hW, h.rt.below (by rw [hW]; exact (Below.refl _ _).alloc (Nat.le_refl _) _), h.apt, h.lo2, fun hr => Nat.lt_irrefl _ (h.rt.lts hr)⟩
theorem PlG.to {w : World} {B room size M : Nat} {T : Int} {L : List Mk} {B2 : Nat} {v : Value} {qs : List Rk} {sb : Nat} {kd : Int} {ap : Option Addr} {lp cp : Nat} {rp : Int} {W : World} (h : PlG w B room size M T L B2 T v qs sb kd ap lp cp rp W) (lk : (qs.map Rk.em).Perm (L.map Mk.tr)) (cl : Cls size L) : PlS w B room size M T L B2 v qs W := ⟨h.g.st, h.rt, h.apt, h.lo2, lk, cl⟩
/-- Both have the same marks. -/
theorem both_has {L : List Mk} {qs : List Rk} (lk : (qs.map Rk.em).Perm (L.map Mk.tr)) (hok : ∀ m ∈ L, m.ok) {x : Int} {t : List Int} (hx : isU x) (ht : isIs t) : hasM L x t = decide (0 ≤ plcM qs x t) := by
  have h1 := key_has hok hx ht
  have h2 := plc_has (qs := qs) (x := x) (t := t)
  rw [(lk.map keyE).mem_iff] at h2
  cases h : hasM L x t with
  | true => simp [h2.2 (h1.1 h)]
  | false =>
    have : ¬ 0 ≤ plcM qs x t := fun h3 => by rw [h1.2 (h2.1 h3)] at h; cases h
    simp [this]
theorem both_len {L : List Mk} {qs : List Rk} (lk : (qs.map Rk.em).Perm (L.map Mk.tr)) : qs.length = L.length := by simpa using lk.length_eq
theorem begB_pre {a b : List Int} : begB a b = decide (a <+: b) := by
  unfold begB
  rw [Bool.eq_iff_iff, List.isPrefixOf_iff_prefix]
  simp
theorem both_use {L : List Mk} {qs : List Rk} (lk : (qs.map Rk.em).Perm (L.map Mk.tr)) (ts : List Int) (T : Int) : ((qs.map (usQ ts T)).map Rk.em).Perm ((useL L ts T).map Mk.tr) := by
  have e1 : (qs.map (usQ ts T)).map Rk.em = (qs.map Rk.em).map fun e => if e.2.1 <+: ts then (e.1, e.2.1, T) else e := by
    rw [List.map_map, List.map_map]
    refine List.map_congr_left fun q hq => ?_
    simp only [Function.comp, usQ, begB_pre]
    by_cases h : q.toks <+: ts
    · rw [if_pos (by simpa using h), if_pos (show q.em.2.1 <+: ts from h)]; rfl
    · rw [if_neg (by simpa using h), if_neg (show ¬ q.em.2.1 <+: ts from h)]
  have e2 : (useL L ts T).map Mk.tr = (L.map Mk.tr).map fun e => if e.2.1 <+: ts then (e.1, e.2.1, T) else e := by
    unfold useL
    rw [List.map_map, List.map_map]
    refine List.map_congr_left fun m hm => ?_
    simp only [Function.comp]
    by_cases h : m.toks <+: ts
    · rw [if_pos h, if_pos (show m.tr.2.1 <+: ts from h)]; rfl
    · rw [if_neg h, if_neg (show ¬ m.tr.2.1 <+: ts from h)]
  rw [e1, e2]
  exact lk.map _
theorem both_forget {L : List Mk} {qs : List Rk} (lk : (qs.map Rk.em).Perm (L.map Mk.tr)) (x : Int) : ((forR qs x).map Rk.em).Perm ((forL L x).map Mk.tr) := by
  have e1 : (forR qs x).map Rk.em = (qs.map Rk.em).filter fun e => decide (e.1 ≠ x) := by
    unfold forR
    rw [List.filter_map]
    rfl
  have e2 : (forL L x).map Mk.tr = (L.map Mk.tr).filter fun e => decide (e.1 ≠ x) := by
    unfold forL
    rw [List.filter_map]
    rfl
  rw [e1, e2]
  exact lk.filter _
/-- Both matched the same. -/
theorem both_lg {L : List Mk} {qs : List Rk} (lk : (qs.map Rk.em).Perm (L.map Mk.tr)) {ts : List Int} {K1 K2 : List Int} {f1 f2 : Int → Int} (n1 : K1.Nodup) (n2 : K2.Nodup) (h1 : LgP (L.filter fun m => decide (m.toks <+: ts)) K1 f1) (h2 : LgP (bgR qs ts qs.length) K2 f2) : (∀ r, f1 r = f2 r ∧ decide (r ∈ K1) = decide (r ∈ K2)) ∧ K1.length = K2.length := by
  have hA : ∀ m ∈ (L.filter fun m => decide (m.toks <+: ts)), ∃ y ∈ bgR qs ts qs.length, y.rep = m.rep ∧ y.toks = m.toks := fun m hm => by
    obtain ⟨a1, a2⟩ := List.mem_filter.1 hm
    obtain ⟨q, hq, e⟩ := List.mem_map.1 (lk.mem_iff.2 (List.mem_map_of_mem a1))
    have e1 : q.rep = m.rep := congrArg (fun t => t.1) e
    have e2 : q.toks = m.toks := congrArg (fun t => t.2.1) e
    refine ⟨q.toM, List.mem_map.2 ⟨q, List.mem_filter.2 ⟨by rw [List.take_length]; exact hq, by rw [begB_pre, e2]; exact a2⟩, rfl⟩, e1, e2⟩
  have hB : ∀ y ∈ bgR qs ts qs.length, ∃ m ∈ (L.filter fun m => decide (m.toks <+: ts)), m.rep = y.rep ∧ m.toks = y.toks := fun y hy => by
    obtain ⟨q, hq, rfl⟩ := List.mem_map.1 hy
    obtain ⟨a1, a2⟩ := List.mem_filter.1 hq
    rw [List.take_length] at a1
    obtain ⟨m, hm, e⟩ := List.mem_map.1 (lk.mem_iff.1 (List.mem_map_of_mem a1))
    have e1 : m.rep = q.rep := congrArg (fun t => t.1) e
    have e2 : m.toks = q.toks := congrArg (fun t => t.2.1) e
    exact ⟨m, List.mem_filter.2 ⟨hm, by rw [e2, ← begB_pre]; exact a2⟩, e1, e2⟩
  have hK : ∀ r, r ∈ K1 ↔ r ∈ K2 := fun r => by
    rw [(h1 r).2.2, (h2 r).2.2]
    constructor
    · rintro ⟨m, hm, e⟩; obtain ⟨y, hy, a, _⟩ := hA m hm; exact ⟨y, hy, by rw [a, e]⟩
    · rintro ⟨y, hy, e⟩; obtain ⟨m, hm, a, _⟩ := hB y hy; exact ⟨m, hm, by rw [a, e]⟩
  refine ⟨fun r => ⟨?_, by simp [hK r]⟩, ((List.perm_ext_iff_of_nodup n1 n2).2 hK).length_eq⟩
  have z1 := h1.nonneg r
  have z2 := h2.nonneg r
  have le1 : f1 r ≤ f2 r := by
    rcases (h1 r).2.1 with ⟨e, _⟩ | ⟨m, hm, e, e2⟩
    · omega
    · obtain ⟨y, hy, a, b⟩ := hA m hm
      have := (h2 r).1 y hy (by rw [a, e])
      rw [b] at this
      omega
  have le2 : f2 r ≤ f1 r := by
    rcases (h2 r).2.1 with ⟨e, _⟩ | ⟨y, hy, e, e2⟩
    · omega
    · obtain ⟨m, hm, a, b⟩ := hB y hy
      have := (h1 r).1 m hm (by rw [a, e])
      rw [b] at this
      omega
  omega
set_option maxHeartbeats 2000000 in
theorem same17_any {a : Option Addr} {len cap : Nat} {xs : List Sp} {n : Nat} (hnl : n ≤ len) {b1 b2 : Nat} {K1 K2 : List Int} {f1 f2 : Int → Int} (w : World) (hl : Lst w a len cap 3 xs SpV (fun s => SpIn w s)) (u1 : UmAt w b1 K1 f1) (u2 : UmAt w b2 K2 f2) (he : (∀ r, f1 r = f2 r ∧ decide (r ∈ K1) = decide (r ∈ K2)) ∧ K1.length = K2.length) (hn6 : n ≤ 60) :
    Calls Try.prog 10 #[.map (some b1), .map (some b2), .slice a n cap] w fun e w' => e = .returned (.bool true) ∧ Hid (Below w.heap.size w w') := by
  have HL := hid fun (W : World) (hb : Below w.heap.size w W) => hl.below hb
  have HU := hid fun (W : World) (hb : Below w.heap.size w W) => And.intro (u1.below hb) (u2.below hb)
  have HE := hid he
  have hV0 := hid (Below.refl w.heap.size w)
  have r1 := hl.room
  have m1 := hl.most
  clear hl u1 u2 he
  go_enter Try.func10, Try.ntmps10
  go_wp2_with fail
  go_loopw [15] (fun z W => ∃ k : Nat, k ≤ n ∧ z = .int .i64 k ∧ Hid (Below w.heap.size w W)) (fun z _ => n - (intOf z).toNat)
  case atStart => exact ⟨0, Nat.zero_le _, rfl, hV0⟩
  case round =>
  obtain ⟨k, hk, rfl, HV⟩ := hrel
  rename World => w1
  clear hV0
  by_cases hkl : k < n
  · have g1 : (k : Int) < (n : Int) := by omega
    obtain ⟨b, off, s, rfl, hsk, hsi, q1, q2, q3⟩ := (HL.out _ HV.out).at (i := k) (by omega)
    obtain ⟨w2, hw2⟩ : ∃ w2, w2 = w1.alloc (.cells #[.int .u8 s.kd, .slice s.ap s.lp s.cp, .int .u64 s.rep] 35) := ⟨_, rfl⟩
    have hb2 : Below w1.heap.size w1 w2 := by rw [hw2]; exact (Below.refl _ _).alloc (Nat.le_refl _) _
    have HV2 := hid (HV.out.trans (hb2.mono HV.out.size))
    obtain ⟨sb, hsb⟩ : ∃ sb, w1.heap.size = sb := ⟨_, rfl⟩
    have y2 : w2.cell? ⟨sb, 2, none⟩ = some (.int .u64 s.rep) := by
      rw [hw2, ← hsb, cell_of_row _ _ _ _ _ _ (heap_alloc_new w1 _)]; rfl
    have l1 := (HU.out _ HV2.out).1.look_ok hsi.rep
    have l2 := (HU.out _ HV2.out).2.look_ok hsi.rep
    rw [(HE.out.1 s.rep).1, (HE.out.1 s.rep).2] at l1
    rw [hw2] at l1 l2 y2
    rw [hw2] at HV2
    clear hsk hsi hb2 hw2 HL HU HE HV
    generalize s.kd = kd at *
    generalize s.ap = ap at *
    generalize s.lp = lp at *
    generalize s.cp = cp at *
    generalize hrp : s.rep = rp at *
    generalize f2 rp = fv at *
    generalize decide (rp ∈ K2) = dk at *
    go_wp2_with fail
    go_round
    case rel => exact ⟨k + 1, by omega, by go_num, HV2⟩
    case measure => simp [intOf]; omega
  · have g1 : ¬ (k : Int) < (n : Int) := by omega
    have e1 := fun ty => (HU.out _ HV.out).1.len ty
    have e2 := fun ty => (HU.out _ HV.out).2.len ty
    rw [HE.out.2] at e1
    clear HL HU HE
    go_wp2_with fail
    go_ret
    exact ⟨by simp, HV⟩
end Go.Proofs.Ytdchoegaindnbaa
