/-
  The texts KvW7 of this proof.
-/
import Derived.Test.YtjgggialnegddaaGreatPn38
set_option linter.unusedVariables false
set_option maxRecDepth 1000000
namespace Go.Proofs.YtjgggialnegddaaGreat
open Go.RowKit Go.Maps
theorem MvAt.put {W : World} {B n : Nat} {f : Value → Option Nat} (h : MvAt W B n f) (hn : n ≤ 1000000000) {v : Value} {l : Lit} (hv : kOf v = some l) (b : Nat) :
  ∃ W', (Instr.mapUpdate 122 (.map (some B)) v (.pointer (some ⟨b, 0, none⟩))).run Tryz.prog W = .ok () W' ∧ (∀ g : Value → Option Nat, g v = some b → (∀ u, u ≠ v → g u = f u) → MvAt W' B (n + 1) g) ∧ W.mapTurned W' B := by
 obtain ⟨D, h1, h2⟩ := h
 obtain ⟨W', hr, ho, hg⟩ := h1.store klaw Tryz.underlying122 (by unfold maxLen; omega) hv (Rp_mk b)
 refine ⟨W', hr, fun g g1 g2 => ⟨_, ho, fun u m hu => ?_⟩, hg⟩
 by_cases e : u = v
 ·subst e
  have e2 : m = l := by rw [hv] at hu; exact (Option.some.inj hu).symm
  subst e2
  rw [atKey_put_same h1.isMap (klaw.key hv), has_put_same h1.isMap (klaw.key hv), g1]
  exact ⟨rfl, rfl⟩
 ·have hne : m ≠ l := fun e2 => e (klaw.inj hu (by rw [e2]; exact hv))
  rw [atKey_put_other hne, has_put_other hne, g2 u e]
  exact h2 u m hu
section
variable {B bb r : Nat} {pp : Option Addr} {L : Lay} {c : Cf} {pg sz : Nat} {tm : Int} {T : List (List Int)}
def RoomC (L : Lay) (pg sz : Nat) (tm : Int) (T T1 : List (List Int)) : Prop :=
 (T.length < pg ∧ T1 = T) ∨ (T.length = pg ∧ (∀ y ∈ T, lfB T sz y = true → tm ≤ L.us y) ∧ T1 = T) ∨
 (T.length = pg ∧ ∃ x, x ∈ T ∧ lfB T sz x = true ∧ L.us x < tm ∧ (∀ y ∈ T, lfB T sz y = true → L.us x ≤ L.us y) ∧ T1 = rmv T x)
theorem RoomC.room {T1 : List (List Int)} (h : T.length < pg) (e : T1 = T) : RoomC L pg sz tm T T1 := .inl ⟨h, e⟩
theorem RoomC.full {T1 : List (List Int)} (h : T.length = pg) (ho : ∀ y ∈ T, lfB T sz y = true → tm ≤ L.us y) (e : T1 = T) : RoomC L pg sz tm T T1 := .inr (.inl ⟨h, ho, e⟩)
theorem RoomC.gone {T1 : List (List Int)} (h : T.length = pg) (x : List Int) (hx : x ∈ T) (hl : lfB T sz x = true) (hu : L.us x < tm) (ho : ∀ y ∈ T, lfB T sz y = true → L.us x ≤ L.us y) (e : T1 = rmv T x) : RoomC L pg sz tm T T1 := .inr (.inr ⟨h, x, hx, hl, hu, ho, e⟩)
def UnG (w : World) (B bb r : Nat) (pp : Option Addr) (L : Lay) (c : Cf) (pg sz : Nat) (tm : Int) (T : List (List Int)) (F' : Nat → Prop) (hs' : List Int) (vs' : List Value) (T1 : List (List Int)) (w1 : World) : Prop :=
 KvB w1 B bb r pp { L with Fp := F', hs := hs', vs := vs' } c pg sz tm T1 ∧ (∀ k, F' k → L.Fp k ∨ w.heap.size ≤ k) ∧ Fb (ftB B bb L T) w w1 ∧ RoomC L pg sz tm T T1
theorem RoomG.un {w w1 : World} (h : KvB w B bb r pp L c pg sz tm T) (hg : RoomG w B bb r pp L c pg sz tm T w1) : ∃ F' hs' vs' T1, UnG w B bb r pp L c pg sz tm T F' hs' vs' T1 w1 := by
 rcases hg with ⟨h1, hb⟩ | ⟨h1, ho, hb⟩ | ⟨h1, x, hx, hl, hu, ho, hg⟩
 ·exact ⟨L.Fp, L.hs, L.vs, T, h.below hb, fun k hk => .inl hk, Fb.of hb, .room h1 rfl⟩
 ·exact ⟨L.Fp, L.hs, L.vs, T, h.below hb, fun k hk => .inl hk, Fb.of hb, .full h1 ho rfl⟩
 ·obtain ⟨F', k1, k2, k3⟩ := hg
  exact ⟨F', _, _, _, k1, k2, k3, .gone h1 x hx hl hu ho rfl⟩
theorem rmv_len {x : List Int} (hx : x ∈ T) : (rmv T x).length < T.length := by
 unfold rmv
 rw [List.length_filter_lt_length_iff_exists]
 exact ⟨x, hx, by simp⟩
theorem rmv_nodup {x : List Int} (h : T.Nodup) : (rmv T x).Nodup := h.filter _
theorem RoomC.sub {T1 : List (List Int)} (h : RoomC L pg sz tm T T1) : ∀ y ∈ T1, y ∈ T := by
 rcases h with ⟨h1, e⟩ | ⟨h1, ho, e⟩ | ⟨h1, x, hx, hl, hu, ho, e⟩
 ·subst e; exact fun y hy => hy
 ·subst e; exact fun y hy => hy
 ·subst e; exact fun y hy => (mem_rmv.1 hy).1
theorem RoomC.nodup {T1 : List (List Int)} (h : RoomC L pg sz tm T T1) (hn : T.Nodup) : T1.Nodup := by
 rcases h with ⟨h1, e⟩ | ⟨h1, ho, e⟩ | ⟨h1, x, hx, hl, hu, ho, e⟩
 ·subst e; exact hn
 ·subst e; exact hn
 ·subst e; exact rmv_nodup hn
theorem RoomC.stays {T1 : List (List Int)} (h : RoomC L pg sz tm T T1) {t : List Int} (hI : InT T t) (ht : t ∈ T → L.us t = tm) : InT T1 t := by
 rcases hI with hI | hI
 ·exact .inl hI
 rcases h with ⟨h1, e⟩ | ⟨h1, ho, e⟩ | ⟨h1, x, hx, hl, hu, ho, e⟩
 ·subst e; exact .inr hI
 ·subst e; exact .inr hI
 ·subst e
  refine .inr (mem_rmv.2 ⟨hI, fun e => ?_⟩)
  rw [← e, ht hI] at hu
  omega
theorem RoomC.cls {T1 : List (List Int)} (h : RoomC L pg sz tm T T1) (hz : 1 ≤ sz) (hC : Cls T sz) : Cls T1 sz := by
 rcases h with ⟨h1, e⟩ | ⟨h1, ho, e⟩ | ⟨h1, x, hx, hl, hu, ho, e⟩
 ·subst e; exact hC
 ·subst e; exact hC
 ·subst e
  intro y hy
  obtain ⟨h1, h2⟩ := mem_rmv.1 hy
  obtain ⟨h3, h4⟩ := hC y h1
  refine ⟨h3, h4.elim .inl fun h5 => .inr (mem_rmv.2 ⟨h5, fun e => ?_⟩)⟩
  have := lfB_iff.1 hl (byL sz y) (by unfold byL; rw [List.length_drop]; omega)
  rw [← e, app_by] at this
  exact this h1
theorem RoomC.full_iff {T1 : List (List Int)} (h : RoomC L pg sz tm T T1) : T1.length < pg ∨ (T1 = T ∧ T.length = pg ∧ ∀ y ∈ T, lfB T sz y = true → tm ≤ L.us y) := by
 rcases h with ⟨h1, e⟩ | ⟨h1, ho, e⟩ | ⟨h1, x, hx, hl, hu, ho, e⟩
 ·subst e; exact .inl h1
 ·exact .inr ⟨e, h1, ho⟩
 ·subst e; exact .inl (by have := rmv_len hx; omega)
theorem KvB.repool {W W2 : World} (h : KvB W B bb r pp L c pg sz tm T) (h2 : PgG W L.Fp pp L.hs W2) : ∃ F', KvB W2 B bb r pp { L with Fp := F' } c pg sz tm T ∧ (∀ k, F' k → L.Fp k ∨ W.heap.size ≤ k) ∧ Fb (ftB B bb L T) W W2 := by
 obtain ⟨F', g1, g2, g3⟩ := h2
 have hF : Fb (ftB B bb L T) W W2 := g3.mono fun k hk => .inr (.inr (.inl hk))
 refine ⟨F', ⟨g3.one h.var h.BFp, h.root, g1, h.hsl, h.held, h.pgb, h.pgi, own_blk h.row fun b hb' => ?_, h.at', h.tree.same fun x hx => ⟨g3.block _ (lt_of_block (h.tree.node x hx)) (h.ndFp hx), g3.block _ (h.tree.map x hx).lt (h.mpFp hx)⟩, fun x hx => ⟨StT.fbF h hF (fun k hk => .inl hk) (h.sts x hx).1 (h.sts x hx).2, fun k hk hf => ?_⟩, h.tok⟩, g2, hF⟩
 ·cases hb'
  obtain ⟨cur, hc⟩ := h.rowb
  exact g3.block _ (lt_of_block hc) h.bbFp
 ·rcases g2 k hf with h' | h'
  ·exact (h.sts x hx).2 k hk h'
  ·obtain ⟨g, pm, tc, ha, hc, pq, _, _, h5, _⟩ := (h.sts x hx).1
   obtain ⟨a, e, rfl⟩ := hk
   obtain ⟨cur, fz, hcur⟩ := h5 a e
   have := lt_of_block hcur
   omega
theorem KvB.free {W : World} (h : KvB W B bb r pp L c pg sz tm T) (hn : T.Nodup) (hl : T.length < pg) : ∃ n, n < pg ∧ L.hs[n]?.getD 0 = 0 ∧ takeN L.hs = n ∧ takeE L.hs = 0 ∧ takeH L.hs = L.hs.set n 1 := by
 have hc := h.cnt hn
 have hI : takeI L.hs < L.hs.length := by
  rcases Nat.lt_or_ge (takeI L.hs) L.hs.length with h' | h'
  ·exact h'
  ·exfalso
   have he : takeI L.hs = L.hs.length := Nat.le_antisymm (takeI_le _) h'
   have hall : ∀ i, i < L.hs.length → 0 < L.hs[i]?.getD 0 := fun i hi => by
    rcases h.held i (by rw [← h.hsl]; exact hi) with ⟨h4, _⟩ | ⟨h4, _⟩
    ·exfalso
     have : takeI L.hs ≤ i := by
      unfold takeI
      rcases Nat.lt_or_ge i (List.findIdx (· == 0) L.hs) with h6 | h6
      ·have := List.not_of_lt_findIdx h6
       rw [List.getElem?_eq_getElem hi] at h4
       simp at this h4
       exact absurd h4 this
      ·exact h6
     omega
    ·omega
   have := usedK_full hall
   unfold usedL at hc
   rw [this, h.hsl] at hc
   omega
 refine ⟨takeI L.hs, by rw [← h.hsl]; exact hI, takeI_free hI, ?_, ?_, ?_⟩
 ·unfold takeN; rw [if_pos hI]
 ·unfold takeE; rw [if_pos hI]
 ·unfold takeH; rw [if_pos hI]
theorem KvB.nofree {W : World} (h : KvB W B bb r pp L c pg sz tm T) (hn : T.Nodup) (hl : T.length = pg) : takeN L.hs = 0 ∧ takeE L.hs = 9 ∧ takeH L.hs = L.hs := by
 have hc := h.cnt hn
 have hI : ¬ takeI L.hs < L.hs.length := fun h' => by
  have := usedK_less (hs := L.hs) h' (by rw [takeI_free h']; omega)
  unfold usedL at hc
  rw [h.hsl] at hc this
  omega
 refine ⟨?_, ?_, ?_⟩
 ·unfold takeN; rw [if_neg hI]
 ·unfold takeE; rw [if_neg hI]
 ·unfold takeH; rw [if_neg hI]
def AddG (w : World) (B bb r : Nat) (pp : Option Addr) (L : Lay) (c : Cf) (pg sz : Nat) (tm : Int) (T : List (List Int)) (x : List Int) (ta : Option Addr) (w' : World) (q : Option Addr) : Prop :=
 (q = none ∧ T.length = pg ∧ (∀ y ∈ T, lfB T sz y = true → tm ≤ L.us y) ∧ ∃ L' : Lay, KvB w' B bb r pp L' c pg sz tm T ∧ (∀ k, ftB B bb L' T k → ftB B bb L T k ∨ w.heap.size ≤ k) ∧ Fb (ftB B bb L T) w w' ∧ L'.us = L.us ∧ L'.mx = L.mx ∧ L'.ta = L.ta) ∨
 (∃ (L' : Lay) (T1 : List (List Int)), q = some ⟨L'.nd x, 0, none⟩ ∧ KvB w' B bb r pp L' c pg sz tm (T1 ++ [x]) ∧ (∀ k, ftB B bb L' (T1 ++ [x]) k → ftB B bb L T k ∨ w.heap.size ≤ k) ∧ Fb (ftB B bb L T) w w' ∧ (∀ z, z ≠ x → L'.us z = L.us z) ∧ L'.us x = tm ∧ L'.mx = L.mx + 1 ∧ RoomC L pg sz tm T T1 ∧ T1.length < pg ∧ (∀ z, z ≠ x → L'.ta z = L.ta z) ∧ L'.ta x = ta)
theorem AddG.no {w w' : World} {x : List Int} {ta q : Option Addr} (e : q = none) (hl : T.length = pg) (ho : ∀ y ∈ T, lfB T sz y = true → tm ≤ L.us y) (L' : Lay) (hk : KvB w' B bb r pp L' c pg sz tm T) (hF : ∀ k, ftB B bb L' T k → ftB B bb L T k ∨ w.heap.size ≤ k) (hb : Fb (ftB B bb L T) w w') (hu : L'.us = L.us) (hm : L'.mx = L.mx) (ht : L'.ta = L.ta) : AddG w B bb r pp L c pg sz tm T x ta w' q := .inl ⟨e, hl, ho, L', hk, hF, hb, hu, hm, ht⟩
theorem AddG.yes {w w' : World} {x : List Int} {ta q : Option Addr} (L' : Lay) (T1 : List (List Int)) (e : q = some ⟨L'.nd x, 0, none⟩) (hk : KvB w' B bb r pp L' c pg sz tm (T1 ++ [x])) (hF : ∀ k, ftB B bb L' (T1 ++ [x]) k → ftB B bb L T k ∨ w.heap.size ≤ k) (hb : Fb (ftB B bb L T) w w') (hu : ∀ z, z ≠ x → L'.us z = L.us z) (hx : L'.us x = tm) (hm : L'.mx = L.mx + 1) (hc : RoomC L pg sz tm T T1) (hl : T1.length < pg) (ht : ∀ z, z ≠ x → L'.ta z = L.ta z) (ht2 : L'.ta x = ta) : AddG w B bb r pp L c pg sz tm T x ta w' q := .inr ⟨L', T1, e, hk, hF, hb, hu, hx, hm, hc, hl, ht, ht2⟩
set_option maxHeartbeats 4000000 in
theorem kadd_any {w : World} (h : KvB w B bb r pp L c pg sz tm T) (hz : 1 ≤ sz ∧ sz ≤ 16) (hn : T.Nodup) (hl : T.length ≤ pg) (hC : Cls T sz) {t ch x : List Int} (hx : x = t ++ ch) (hc : ch.length = sz) (hI : InT T t) (ht : t ∈ T → L.us t = tm) (hxT : x ∉ T) (hk : Tk x) {sp ta : Option Addr} (hs : StT w sp c x ta) (hta : ∀ k, mF ta k → ¬ L.Fp k) (hmx : L.mx ≤ 100000000) :
  Calls Tryz.prog 85 #[.pointer (some ⟨B, 0, none⟩), .pointer (some ⟨L.nd t, 0, none⟩), keyV ch, .pointer sp] w fun e w' => ∃ q, e = .returned (.pointer q) ∧ AddG w B bb r pp L c pg sz tm T x ta w' q := by
 obtain ⟨p0, p1, p2, p3, p4, p5, p6, p7, p8, p9, p10, p11, p12, p13, p14, p15, hps⟩ := list16 (padL_len (xs := ch) (by omega))
 have hkv : keyV ch = .agg #[Value.int .i64 p0, .int .i64 p1, .int .i64 p2, .int .i64 p3, .int .i64 p4, .int .i64 p5, .int .i64 p6, .int .i64 p7, .int .i64 p8, .int .i64 p9, .int .i64 p10, .int .i64 p11, .int .i64 p12, .int .i64 p13, .int .i64 p14, .int .i64 p15] := by unfold keyV; rw [hps]; rfl
 rw [hkv]
 obtain ⟨wA, hwA⟩ : ∃ wA, wA = w.alloc (.cells #[Value.int .i64 p0, .int .i64 p1, .int .i64 p2, .int .i64 p3, .int .i64 p4, .int .i64 p5, .int .i64 p6, .int .i64 p7, .int .i64 p8, .int .i64 p9, .int .i64 p10, .int .i64 p11, .int .i64 p12, .int .i64 p13, .int .i64 p14, .int .i64 p15] 121) := ⟨_, rfl⟩
 have hbA : Below w.heap.size w wA := by rw [hwA]; exact (Below.refl _ _).alloc (Nat.le_refl _) _
 have hA0 : wA.heap[w.heap.size]? = some (.cells #[Value.int .i64 p0, .int .i64 p1, .int .i64 p2, .int .i64 p3, .int .i64 p4, .int .i64 p5, .int .i64 p6, .int .i64 p7, .int .i64 p8, .int .i64 p9, .int .i64 p10, .int .i64 p11, .int .i64 p12, .int .i64 p13, .int .i64 p14, .int .i64 p15] 121 (0, 0)) := by rw [hwA]; exact heap_alloc_new w _
 have hRo := kroom_any (h.below hbA) hz hn hl hC
 have HK := hid h
 have HKA := hid (h.below hbA)
 have HBA := hid hbA
 have HA0 := hid hA0
 clear h hbA hA0
 go_enter Tryz.func85, Tryz.ntmps85
 go_wp2_with fail
 rw [← hwA]
 clear hwA
 refine hRo.mono ?_
 rintro e w1 ⟨rfl, hG⟩
 obtain ⟨F1, hs1, vs1, T1, hk1, hf1, hb1, hrc⟩ := hG.un HKA.out
 have hn1 := hrc.nodup hn
 have HRc := hid hrc
 have c1 := hk1.cells.2.1
 have hTk := ptake_any pp hs1 w1 hk1.pool
 have HK1 := hid hk1
 have HF1 := hid hf1
 have HB1 := hid hb1
 have hA1 : w1.heap[w.heap.size]? = _ := hb1.one HA0.out (fun e => by have := HK.out.old _ e; omega)
 have HA1 := hid hA1
 clear hG hRo hf1 hb1 hA1
 rcases hrc.full_iff with hlt | ⟨rfl, hE, hfull⟩
 ·obtain ⟨n, hnp, hfr, e1, e2, e3⟩ := hk1.free hn1 hlt
  simp only at hfr e1 e2 e3
  rw [e1, e2, e3] at hTk
  clear e1 e2 e3 hrc hk1
  go_wp2_with fail
  refine hTk.mono ?_
  rintro e w2 ⟨rfl, hG⟩
  have hb2 : Fb F1 w1 w2 := by obtain ⟨F2, _, _, h3⟩ := hG; exact h3
  have c4 := hb2.cell HK1.out.cells.2.2.2.2 HK1.out.BFp
  have HA2 := hid (hb2.one HA1.out (fun e => by
   rcases HF1.out _ e with h' | h'
   ·have := HK.out.old _ (.inr (.inr (.inl h'))); omega
   ·have := HBA.out.size
    have : wA.heap.size ≤ w.heap.size := h'
    have := lt_of_block HA0.out
    omega))
  obtain ⟨a0, a1, a2, a3, a4, a5, a6, a7, a8, a9, a10, a11, a12, a13, a14, a15⟩ := cells_16 HA2.out
  have HG2 := hid hG
  obtain ⟨w3, hw3⟩ : ∃ w3, w3 = w2.drew.alloc (.map #[] 0) := ⟨_, rfl⟩
  have hb3 : Below w2.heap.size w2 w3 := by rw [hw3]; exact (Below.refl _ _).drew.alloc (Nat.le_refl _) _
  have hmk : (Instr.makeMap 122 none).run Tryz.prog w2.drew = .ok (.map (some w2.heap.size)) w3 := by rw [hw3]; rfl
  have HM3 : Hid (MvAt w3 w2.heap.size 0 (fun _ => none)) := by unfold Hid; rw [hw3]; exact MvAt.new w2.drew
  have d4 := (hb3.cell (World.block_lt_of_cell? _ _ c4)).trans c4
  obtain ⟨b0, b1, b2, b3, b4, b5, b6, b7, b8, b9, b10, b11, b12, b13, b14, b15⟩ := cells_16 ((hb3.block _ (lt_of_block HA2.out)).trans HA2.out)
  have HB3 := hid hb3
  clear hG hTk c1 hb2 hw3 hb3
  have HX := hid hx
  have HPs := hid hps
  have HKV := hid hkv
  have HHs := hid hs
  have HCl := hid hc
  obtain ⟨w4, hw4⟩ : ∃ w4, w4 = w3.alloc (.cells #[Value.pointer (some ⟨L.nd t, 0, none⟩), .int .i64 p0, .int .i64 p1, .int .i64 p2, .int .i64 p3, .int .i64 p4, .int .i64 p5, .int .i64 p6, .int .i64 p7, .int .i64 p8, .int .i64 p9, .int .i64 p10, .int .i64 p11, .int .i64 p12, .int .i64 p13, .int .i64 p14, .int .i64 p15, .map (some w2.heap.size), .pointer sp, .int .i64 (n : Int), .int .u64 tm] 124) := ⟨_, rfl⟩
  have hb4 : Below w3.heap.size w3 w4 := by rw [hw4]; exact (Below.refl _ _).alloc (Nat.le_refl _) _
  have HB4 : Hid (Below w2.heap.size w2 w4) := HB3.out.trans (hb4.mono HB3.out.size)
  have HN4 : Hid (NdAt w4 w3.heap.size (some ⟨L.nd t, 0, none⟩) ch w2.heap.size sp n tm) := by
   unfold Hid NdAt ndC
   rw [hps, hw4]
   exact heap_alloc_new w3 _
  have HM4 : Hid (MvAt w4 w2.heap.size 0 (fun _ => none)) := HM3.out.below hb4
  have hI1 : InT T1 t := HRc.out.stays hI ht
  have hb2 : Fb F1 w1 w2 := by obtain ⟨F2, _, _, h3⟩ := HG2.out; exact h3
  have hmt1 := HK1.out.tree.map t hI1
  have hmt2 : MvAt w2 (L.mp t) L.mx (chF T1 L.nd sz t) := hmt1.fb hb2 (HK1.out.mpFp hI1)
  have hmt4 : MvAt w4.drew (L.mp t) L.mx (chF T1 L.nd sz t) := (hmt2.below HB4.out).below (Below.refl _ _).drew
  have hTkc : Tk ch := fun y hy => hk y (by rw [hx]; exact List.mem_append_right _ hy)
  obtain ⟨l, hl'⟩ := hTkc.key (by omega)
  obtain ⟨w5, hup, hg5, ht5⟩ := hmt4.put (by omega) hl' w3.heap.size
  have e17 : w4.cell? ⟨L.nd t, 17, none⟩ = some (.map (some (L.mp t))) := by
   have h1 := (HK1.out.ncells hz.2 hI1).2.1
   have h2 := hb2.cell h1 (HK1.out.ndFp hI1)
   exact (HB4.out.cell (World.block_lt_of_cell? _ _ h2)).trans h2
  rw [hkv] at hup
  obtain ⟨f0, f1, f2, f3, f4, f5, f6, f7, f8, f9, f10, f11, f12, f13, f14, f15⟩ := cells_16 ((HB4.out.block _ (lt_of_block HA2.out)).trans HA2.out)
  clear hx hps hkv hs hc hb4 hmt1 hmt2 hmt4 hl' hTkc hb2
  go_wp2_with fail
  go_region
  clear a0 a1 a2 a3 a4 a5 a6 a7 a8 a9 a10 a11 a12 a13 a14 a15 b0 b1 b2 b3 b4 b5 b6 b7 b8 b9 b10 b11 b12 b13 b14 b15 c4 d4 hmk
  rw [← hw4]
  clear hw4
  go_wp2_with fail
  go_region
  clear f0 f1 f2 f3 f4 f5 f6 f7 f8 f9 f10 f11 f12 f13 f14 f15 hup e17
  obtain ⟨w6, hw6⟩ : ∃ w6, w6 = w5.setCell ⟨bb, n, none⟩ (.pointer (some ⟨w3.heap.size, 0, none⟩)) := ⟨_, rfl⟩
  have hf5 : Fb (at1 (L.mp t)) w4 w5 := by
   have := MvAt.fbm ht5
   exact ⟨this.os, this.tape, this.output, this.size, this.block⟩
  have hb2 : Fb F1 w1 w2 := by obtain ⟨F2, _, _, h3⟩ := HG2.out; exact h3
  obtain ⟨curb, hcb⟩ := HK1.out.rowb
  have hr5 : w5.ownsRow 0 113 1 (.slice (some ⟨bb, 0, none⟩) pg pg) pg vs1 := own_blk HK1.out.row fun b hb' => by
   cases hb'
   have s1 := hb2.size
   have s2 := HB4.out.size
   have s3 := lt_of_block hcb
   exact (hf5.block _ (by omega) fun e => HK1.out.bbmp hI1 (Eq.symm e)).trans ((HB4.out.block _ (by omega)).trans (hb2.block _ s3 HK1.out.bbFp))
  have hr6 : w6.ownsRow 0 113 1 (.slice (some ⟨bb, 0, none⟩) pg pg) pg (vs1.set n (.pointer (some ⟨w3.heap.size, 0, none⟩))) := by
   rw [hw6]
   exact (World.ownsRow.stored hr5 n (.pointer (some ⟨w3.heap.size, 0, none⟩))).1
  have hf6 : Fb (at1 bb) w5 w6 := by rw [hw6]; exact Fb.set (by exact rfl) _
  have hvl : vs1.length = pg := by have := HK1.out.row.1; simpa using this
  obtain ⟨v0, ebb⟩ : ∃ v0, w5.cell? ⟨bb, n, none⟩ = some v0 := by
   rw [World.ownsRow.cellAt hr5 n (by omega), List.getElem?_eq_getElem (by omega)]
   exact ⟨_, rfl⟩
  have ebf : w5.frozen? ⟨bb, n, none⟩ = false := World.ownsRow.frozenAt hr5 n
  have e3 : w5.cell? ⟨B, 3, none⟩ = some (.slice (some ⟨bb, 0, none⟩) pg pg) := by
   have h2 := hb2.cell HK1.out.cells.2.2.2.1 HK1.out.BFp
   exact hf5.cell ((HB4.out.cell (World.block_lt_of_cell? _ _ h2)).trans h2) (fun e => HK1.out.Bmp hI1 (Eq.symm e))
  have hcl : ch.length = sz := HCl.out
  have hxT1 : x ∉ T1 := fun e => hxT (HRc.out.sub x e)
  have hlo : ∀ k, mF ta k → k < w.heap.size := fun k hk' => by
   obtain ⟨g, pm, tc, ha, hc, pq, _, _, h5, _⟩ := HHs.out
   obtain ⟨a, e, rfl⟩ := hk'
   obtain ⟨cur, fz, hcur⟩ := h5 a e
   exact lt_of_block hcur
  have hs1' : StT w1 sp c x ta := StT.fbF HKA.out HB1.out (fun k hk => .inl hk) (HHs.out.keep (KpL.of HBA.out) fun k hk' => HBA.out.block k (hlo k hk')) hta
  have hta1 : ∀ k, mF ta k → ¬ F1 k := fun k hk' hf => by
   rcases HF1.out k hf with h' | h'
   ·exact hta k hk' h'
   ·have := hlo k hk'
    have := HBA.out.size
    omega
  have hmem : ∀ y, y ∈ T1 ++ [x] ↔ y ∈ T1 ∨ y = x := fun y => by rw [List.mem_append, List.mem_singleton]
  have hm5 : MvAt w5 (L.mp t) (L.mx + 1) (chF (T1 ++ [x]) (upd L.nd x w3.heap.size) sz t) := hg5 _ (by
    rw [chF_yes hcl (by rw [← HX.out]; exact (hmem x).2 (.inr rfl)), ← HX.out, upd_same]) fun u hu => chF_ext fun ch' hc' e => by
    have hne : t ++ ch' ≠ x := fun e2 => hu (by
     rw [e]
     congr 1
     rw [HX.out] at e2
     exact List.append_cancel_left e2)
    refine ⟨?_, fun _ => upd_other _ _ hne⟩
    rw [hmem]
    exact ⟨fun h' => h'.resolve_right hne, .inl⟩
  obtain ⟨F6, k1, k2, k3⟩ := KvB.added HK1.out hz (HRc.out.cls hz.1 hC) HX.out hcl hI1 hxT1 hk hmem hs1' hta1 hnp hfr HG2.out HB4.out HB3.out.size (Nat.le_refl _) HN4.out HM4.out hf5 hm5 hf6 hr6
  have hft : ∀ k, ftB B bb { L with Fp := F1, hs := hs1, vs := vs1 } T1 k → ftB B bb L T k ∨ wA.heap.size ≤ k := fun k hk' => by
   rcases hk' with h' | h' | h' | ⟨y, hy, h'⟩
   ·exact .inl (.inl h')
   ·exact .inl (.inr (.inl h'))
   ·rcases HF1.out k h' with h3 | h3
    ·exact .inl (.inr (.inr (.inl h3)))
    ·exact .inr h3
   ·exact .inl (.inr (.inr (.inr ⟨y, hy.elim .inl fun h4 => .inr (HRc.out.sub y h4), h'⟩)))
  have HR : Hid (AddG w B bb r pp L c pg sz tm T x ta w6 (some ⟨w3.heap.size, 0, none⟩)) := .yes _ T1 (by rw [show (Lay.add { L with Fp := F1, hs := hs1, vs := vs1 } F6 x n w3.heap.size w2.heap.size sp ta tm).nd x = w3.heap.size from upd_same _ _ _]) k1 (fun k hk' => by
    have sA := HBA.out.size
    have sB := HB1.out.size
    rcases k2 k hk' with h' | h'
    ·rcases hft k h' with h3 | h3
     ·exact .inl h3
     ·exact .inr (by omega)
    ·exact .inr (by omega)) ((Fb.of (F := ftB B bb L T) HBA.out).trans (HB1.out.trans k3 hft) fun k hk => .inl hk) (fun z hz' => upd_other _ _ hz') (upd_same _ _ _) rfl HRc.out hlt (fun z hz' => upd_other _ _ hz') (upd_same _ _ _)
  clear k1 k2 k3 hft hm5 hg5 ht5 hs1' hta1 hmem hlo hxT1 hcl hvl hf6 hr6 hr5 hf5 hb2 hcb HX HPs HKV HHs HN4 HM4 HB4 HB3 HM3 HG2 HA2 HA1 HA0 HB1 HF1 HK1 HRc HKA HK HBA hI1 hI hC hn hn1 hta hxT ht hk hl HCl
  go_wp2_with fail
  rw [← hw6]
  go_ret
  exact ⟨_, rfl, HR.out⟩
 ·obtain ⟨e1, e2, e3⟩ := hk1.nofree hn1 hE
  simp only at e1 e2 e3
  rw [e1, e2, e3] at hTk
  clear e1 e2 e3 hrc hk1
  go_wp2_with fail
  refine hTk.mono ?_
  rintro e w2 ⟨rfl, hG⟩
  obtain ⟨F2, k1, k2, k3⟩ := HK1.out.repool hG
  have HR : Hid (AddG w B bb r pp L c pg sz tm T1 x ta w2 none) := .no rfl hE hfull _ k1 (fun k hk => by
   rcases hk with h' | h' | h' | ⟨y, hy, h'⟩
   ·exact .inl (.inl h')
   ·exact .inl (.inr (.inl h'))
   ·rcases k2 k h' with h'' | h''
    ·rcases HF1.out k h'' with h3 | h3
     ·exact .inl (.inr (.inr (.inl h3)))
     ·exact .inr (by have := HBA.out.size; omega)
    ·exact .inr (by have := HBA.out.size; have := HB1.out.size; omega)
   ·exact .inl (.inr (.inr (.inr ⟨y, hy, h'⟩)))) ((Fb.of (F := ftB B bb L T1) HBA.out).trans (HB1.out.trans k3 fun k hk => by
    rcases hk with h' | h' | h' | h'
    ·exact .inl (.inl h')
    ·exact .inl (.inr (.inl h'))
    ·rcases HF1.out k h' with h3 | h3
     ·exact .inl (.inr (.inr (.inl h3)))
     ·exact .inr h3
    ·exact .inl (.inr (.inr (.inr h')))) fun k hk => .inl hk) rfl rfl rfl
  clear hG k1 k2 k3 hTk HK1 HF1 HB1 HA1 HA0 HRc HK HKA HBA hx hps hkv hs hc
  go_wp2
  go_ret
  exact ⟨_, rfl, HR.out⟩
end
end Go.Proofs.YtjgggialnegddaaGreat
