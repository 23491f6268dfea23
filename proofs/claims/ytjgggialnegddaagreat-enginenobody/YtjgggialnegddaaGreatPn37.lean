/-
  The texts KvW5 of this proof.
-/
import Derived.Test.YtjgggialnegddaaGreatPn36
import Derived.Deep.RegionWith
set_option linter.unusedVariables false
set_option maxRecDepth 1000000
namespace Go.Proofs.YtjgggialnegddaaGreat
open Go.RowKit Go.Maps
section
variable {B bb r : Nat} {pp : Option Addr} {L : Lay} {c : Cf} {pg sz : Nat} {tm : Int} {T : List (List Int)}
theorem app_by {sz : Nat} {x : List Int} : x.take (x.length - sz) ++ byL sz x = x := List.take_append_drop _ _
theorem app_ne {sz : Nat} {x y ch : List Int} (hc : ch.length = sz) (h : y ++ ch = x) : y = x.take (x.length - sz) := by
 subst h
 rw [List.length_append, hc, Nat.add_sub_cancel, List.take_left]
theorem KvB.gone {W W1 W2 W3 : World} (h : KvB W B bb r pp L c pg sz tm T) (hz : 1 ≤ sz ∧ sz ≤ 16) {x : List Int} (hx : x ∈ T) (hx0 : x ≠ []) {xa : List Int} (hxa : xa = x.take (x.length - sz)) (hI : InT T xa) {T' : List (List Int)} (hT : ∀ y, y ∈ T' ↔ y ∈ T ∧ y ≠ x)
  (h1 : Fb (at1 (L.mp xa)) W W1) (hm : MvAt W1 (L.mp xa) L.mx (chF T' L.nd sz xa)) {m : Nat} (hp : L.pgs x = m) (h2 : Fb (at1 bb) W1 W2) (hrow : W2.ownsRow 0 113 1 (.slice (some ⟨bb, 0, none⟩) pg pg) pg (L.vs.set m (.pointer none))) (h3 : PgG W2 L.Fp pp (dropH L.hs m) W3) :
  ∃ F', KvB W3 B bb r pp { L with Fp := F', hs := dropH L.hs m, vs := L.vs.set m (.pointer none) } c pg sz tm T' ∧ (∀ k, F' k → L.Fp k ∨ W.heap.size ≤ k) ∧ Fb (ftB B bb L T) W W3 := by
 obtain ⟨F', g1, g2, g3⟩ := h3
 have hsub : ∀ y, InT T' y → InT T y := fun y hy => hy.elim .inl fun h' => .inr ((hT y).1 h').1
 have hF1 : Fb (ftB B bb L T) W W1 := h1.mono fun k hk => .inr (.inr (.inr ⟨xa, hI, .inr hk⟩))
 have hF2 : Fb (ftB B bb L T) W W2 := hF1.trans (h2.mono fun k hk => show ftB B bb L T k from .inr (.inl hk)) fun k hk => .inl hk
 have hF3 : Fb (ftB B bb L T) W W3 := hF2.trans (g3.mono fun k hk => show ftB B bb L T k from .inr (.inr (.inl hk))) fun k hk => .inl hk
 have hs1 := h1.size
 have hs2 := h2.size
 have key : ∀ k, k < W.heap.size → k ≠ L.mp xa → k ≠ bb → ¬ L.Fp k → W3.heap[k]? = W.heap[k]? := fun k hk e1 e2 e3 =>
  (g3.block k (by omega) e3).trans ((h2.block k (by omega) e2).trans (h1.block k hk e1))
 have hpx := h.pgb x hx
 have hmp : m < pg := by omega
 have hheld : heldZ L.hs m = 1 := by
  rw [heldZ_at (by omega) (by rw [h.hsl]; omega), Int.toNat_natCast]
  rcases h.held m hmp with ⟨_, h5⟩ | ⟨h4, _⟩
  ·exact absurd hp (h5 x hx)
  ·exact h4
 have hd : dropH L.hs m = L.hs.set m 0 := by
  unfold dropH
  rw [hheld, if_neg (by omega), Int.toNat_natCast]
  rfl
 have hne : ∀ y ∈ T', L.pgs y ≠ m := fun y hy e => ((hT y).1 hy).2 (h.pgi y ((hT y).1 hy).1 x hx (by rw [e, hp]))
 refine ⟨F', ⟨?_, h.root, g1, by rw [dropH_len]; exact h.hsl, fun k hk => ?_, fun y hy => h.pgb y ((hT y).1 hy).1, fun y hy z hz' => h.pgi y ((hT y).1 hy).1 z ((hT z).1 hz').1, ?_, fun y hy => ?_, ⟨fun y hy => ?_, fun y hy => ?_, fun y z hy hz' => h.tree.ndi y z (hsub y hy) (hsub z hz'), fun y z hy hz' => h.tree.mpi y z (hsub y hy) (hsub z hz')⟩, fun y hy => ⟨?_, fun k hk hf => ?_⟩, fun y hy => h.tok y ((hT y).1 hy).1⟩, fun k hk => ?_, hF3⟩
 ·exact (key B (lt_of_block h.var) (fun e => h.Bmp hI e.symm) (fun e => h.bbB e.symm) h.BFp).trans h.var
 ·show ((dropH L.hs m)[k]?.getD 0 = 0 ∧ _) ∨ ((dropH L.hs m)[k]?.getD 0 = 1 ∧ _)
  rw [hd]
  by_cases e : m = k
  ·subst e
   left
   refine ⟨by rw [List.getElem?_set_self (by rw [h.hsl]; exact hk)]; rfl, fun y hy => hne y hy⟩
  ·rw [List.getElem?_set_ne e]
   rcases h.held k hk with ⟨h4, h5⟩ | ⟨h4, y, hy, h5⟩
   ·exact .inl ⟨h4, fun y hy => h5 y ((hT y).1 hy).1⟩
   ·refine .inr ⟨h4, y, (hT y).2 ⟨hy, fun e2 => ?_⟩, h5⟩
    rw [e2, hp] at h5
    omega
 ·refine own_blk hrow fun b hb' => ?_
  cases hb'
  obtain ⟨cur, hc⟩ := own_type hrow (o := bb) rfl
  exact g3.block _ (lt_of_block hc) h.bbFp
 ·show (L.vs.set m (.pointer none))[(L.pgs y).toNat]? = _
  rw [List.getElem?_set_ne (fun e => hne y hy (by have := h.pgb y ((hT y).1 hy).1; omega))]
  exact h.at' y ((hT y).1 hy).1
 ·have hy' := hsub y hy
  exact (key _ (lt_of_block (h.tree.node y hy')) (fun e => h.ndmp hy' hI e) (fun e => h.bbnd hy' e) (h.ndFp hy')).trans (h.tree.node y hy')
 ·have hy' := hsub y hy
  by_cases e : y = xa
  ·subst e
   exact hm.same ((g3.block _ (by have := hm.lt; omega) (h.mpFp hI)).trans (h2.block _ hm.lt (fun e => h.bbmp hI e)))
  ·refine ((h.tree.map y hy').same (key _ (h.tree.map y hy').lt (fun e2 => e (h.tree.mpi y xa hy' hI e2)) (fun e2 => h.bbmp hy' e2) (h.mpFp hy'))).ext fun v l hv => chF_ext fun ch hc _ => ⟨?_, fun _ => rfl⟩
   rw [hT]
   constructor
   ·intro hm'
    refine ⟨hm', fun e2 => e ?_⟩
    rw [hxa]
    exact app_ne hc e2
   ·exact fun hm' => hm'.1
 ·have hy' := ((hT y).1 hy).1
  exact StT.fbF h hF3 (fun k hk => .inl hk) (h.sts y hy').1 (h.sts y hy').2
 ·have hy' := ((hT y).1 hy).1
  rcases g2 k hf with h' | h'
  ·exact (h.sts y hy').2 k hk h'
  ·obtain ⟨g, pm, tc, ha, hc, pq, _, _, h5, _⟩ := (h.sts y hy').1
   obtain ⟨a, e, rfl⟩ := hk
   obtain ⟨cur, fz, hcur⟩ := h5 a e
   have := lt_of_block hcur
   omega
 ·rcases g2 k hk with h' | h'
  ·exact .inl h'
  ·exact .inr (by omega)
def GoneG (w : World) (B bb r : Nat) (pp : Option Addr) (L : Lay) (c : Cf) (pg sz : Nat) (tm : Int) (T T' : List (List Int)) (x : List Int) (w' : World) : Prop :=
 ∃ F', KvB w' B bb r pp { L with Fp := F', hs := dropH L.hs (L.pgs x), vs := L.vs.set (L.pgs x).toNat (.pointer none) } c pg sz tm T' ∧ (∀ k, F' k → L.Fp k ∨ w.heap.size ≤ k) ∧ Fb (ftB B bb L T) w w'
set_option maxHeartbeats 4000000 in
theorem klet_any {w : World} (h : KvB w B bb r pp L c pg sz tm T) (hz : 1 ≤ sz ∧ sz ≤ 16) {x : List Int} (hx : x ∈ T) (hxl : sz ≤ x.length) (hI : InT T (x.take (x.length - sz))) {T' : List (List Int)} (hT : ∀ y, y ∈ T' ↔ y ∈ T ∧ y ≠ x) :
  Calls Tryz.prog 157 #[.pointer (some ⟨B, 0, none⟩), .pointer (some ⟨L.nd x, 0, none⟩)] w fun e w' => e = .returned (.tuple #[]) ∧ GoneG w B bb r pp L c pg sz tm T T' x w' := by
 have hx0 : x ≠ [] := fun e => by rw [e] at hxl; simp at hxl; omega
 have hbl : (byL sz x).length = sz := by unfold byL; rw [List.length_drop]; omega
 obtain ⟨xa, hxa⟩ : ∃ xa, xa = x.take (x.length - sz) := ⟨_, rfl⟩
 rw [← hxa] at hI
 obtain ⟨p0, p1, p2, p3, p4, p5, p6, p7, p8, p9, p10, p11, p12, p13, p14, p15, hps⟩ := list16 (padL_len (xs := byL sz x) (by omega))
 obtain ⟨b1, b2, b3, b4, b5, b6, b7, b8, b9, b10, b11, b12, b13, b14, b15, b16⟩ := (h.tree.node x (.inr hx)).by hps
 have hkv : keyV (byL sz x) = .agg #[Value.int .i64 p0, .int .i64 p1, .int .i64 p2, .int .i64 p3, .int .i64 p4, .int .i64 p5, .int .i64 p6, .int .i64 p7, .int .i64 p8, .int .i64 p9, .int .i64 p10, .int .i64 p11, .int .i64 p12, .int .i64 p13, .int .i64 p14, .int .i64 p15] := by unfold keyV; rw [hps]; rfl
 obtain ⟨m, hm⟩ : ∃ m : Nat, L.pgs x = m := ⟨(L.pgs x).toNat, by have := h.pgb x hx; omega⟩
 have hmp : m < pg := by have := h.pgb x hx; omega
 have hTk : Tk (byL sz x) := (h.tok x hx).drop _
 obtain ⟨l, hl⟩ := hTk.key (by omega)
 have hd := h.below (W' := w.drew) ((Below.refl _ _).drew)
 obtain ⟨w1, hdel, hm1, ht1⟩ := (hd.tree.map xa hI).drop hl 0
 have hM : MvAt w1 (L.mp xa) L.mx (chF T' L.nd sz xa) := hm1 _ (by
   refine chF_no hbl fun e => ?_
   rw [hxa, app_by] at e
   exact ((hT x).1 e).2 rfl) fun u hu => chF_ext fun ch hc e => ⟨by
    rw [hT]
    constructor
    ·exact fun h' => h'.1
    ·intro h'
     refine ⟨h', fun e2 => hu ?_⟩
     rw [e]
     congr 1
     have := congrArg (byL sz) e2
     rw [byL_app hc] at this
     exact this, fun _ => rfl⟩
 have hf1 : Fb (at1 (L.mp xa)) w w1 := by
  have := MvAt.fbm ht1
  exact ⟨this.os, this.tape, this.output, this.size, this.block⟩
 rw [hkv] at hdel
 obtain ⟨n0, _, _, n19, _⟩ := h.ncells hz.2 (.inr hx)
 obtain ⟨_, a17, _, _, _⟩ := h.ncells hz.2 hI
 have hah : ahP L.nd sz x = some ⟨L.nd xa, 0, none⟩ := by unfold ahP; rw [if_neg hx0, hxa]
 rw [hah] at n0
 rw [hm] at n19
 obtain ⟨w2, hw2⟩ : ∃ w2, w2 = (w1.setCell ⟨bb, m, none⟩ (.pointer none)).drew := ⟨_, rfl⟩
 have e3 : w1.cell? ⟨B, 3, none⟩ = some (.slice (some ⟨bb, 0, none⟩) pg pg) := hf1.cell h.cells.2.2.2.1 (fun e => h.Bmp hI (Eq.symm e))
 have e19 : w1.cell? ⟨L.nd x, 19, none⟩ = some (.int .i64 m) := hf1.cell n19 (fun e => h.ndmp (.inr hx) hI e)
 have hr1 : w1.ownsRow 0 113 1 (.slice (some ⟨bb, 0, none⟩) pg pg) pg L.vs := own_blk h.row fun b hb' => by
  cases hb'
  obtain ⟨cur, hc⟩ := h.rowb
  exact hf1.block _ (lt_of_block hc) fun e => h.bbmp hI (Eq.symm e)
 have hr2 : w2.ownsRow 0 113 1 (.slice (some ⟨bb, 0, none⟩) pg pg) pg (L.vs.set m (.pointer none)) := by
  rw [hw2]
  exact own_below (World.ownsRow.stored hr1 m (.pointer none)).1 (Below.refl _ _).drew
 have hf2 : Fb (at1 bb) w1 w2 := by
  rw [hw2]
  exact Fb.drew (Fb.set (by exact rfl) _)
 have hlv : L.vs.length = pg := by have := h.row.1; simpa using this
 have ebb : ∃ v0, w1.cell? ⟨bb, m, none⟩ = some v0 := by
  rw [World.ownsRow.cellAt hr1 m (by omega)]
  rw [List.getElem?_eq_getElem (by omega)]
  exact ⟨_, rfl⟩
 obtain ⟨v0, ebb⟩ := ebb
 have ebf : w1.frozen? ⟨bb, m, none⟩ = false := World.ownsRow.frozenAt hr1 m
 have g1 : w2.cell? ⟨B, 1, none⟩ = some (.pointer pp) := hf2.cell (hf1.cell h.cells.2.1 (fun e => h.Bmp hI (Eq.symm e))) (fun e => h.bbB (Eq.symm e))
 have g19 : w2.cell? ⟨L.nd x, 19, none⟩ = some (.int .i64 m) := hf2.cell e19 (fun e => h.bbnd (.inr hx) e)
 have hPg : PgAt w2 pp L.hs L.Fp := (h.pool.fb hf1 fun k hk e => h.mpFp hI (by have e' : k = L.mp xa := e; rw [← e']; exact hk)).fb hf2 fun k hk e => h.bbFp (by have e' : k = bb := e; rw [← e']; exact hk)
 have hDr := hid fun (W : World) (hb : Below w2.heap.size w2 W) => pdrop_any pp L.hs (m : Int) W (hPg.below hb)
 have HE : Hid (∀ w3 : World, PgG w2 L.Fp pp (dropH L.hs m) w3 → GoneG w B bb r pp L c pg sz tm T T' x w3) := fun w3 h3 => by
  unfold GoneG
  rw [hm, Int.toNat_natCast]
  exact h.gone hz hx hx0 hxa hI hT hf1 hM hm hf2 hr2 h3
 clear hM ht1 hm1 hl hTk hkv hps hd hr1 hr2 hf1 hf2 hPg hlv hah h hT hx0 hbl hxl
 have HVd : Hid (Below w2.heap.size w2 w2.drew) := (Below.refl _ _).drew
 clear hxa hm hz hx hI
 go_enter Tryz.func157, Tryz.ntmps157
 go_wp2_with fail
 go_region
 clear b1 b2 b3 b4 b5 b6 b7 b8 b9 b10 b11 b12 b13 b14 b15 b16 hdel n0 n19 a17
 go_wp2_with fail
 go_region
 clear e3 e19 ebb ebf
 go_wp2_with fail
 rw [← hw2]
 clear hw2
 go_region_with (go_at_call 62; refine (hDr.out _ HVd.out).mono ?_; rintro e w3 ⟨rfl, hG⟩; have HG3 := hid hG; clear hG)
 all_goals
  have HG : Hid (GoneG w B bb r pp L c pg sz tm T T' x w3) := HE.out w3 (by
   obtain ⟨F', k1, k2, k3⟩ := HG3.out
   exact ⟨F', k1, k2, k3.os, k3.tape, k3.output, k3.size, k3.block⟩)
  clear HG3 HE hDr HVd g1 g19
  go_wp2
  go_end0
  exact ⟨rfl, HG.out⟩
def Cls (T : List (List Int)) (sz : Nat) : Prop := ∀ x ∈ T, sz ≤ x.length ∧ InT T (x.take (x.length - sz))
theorem OkE.cls {sz : Nat} {es : List En} (h : OkE sz es) : Cls (txs es) sz := by
 intro x hx
 obtain ⟨j, h1, h2⟩ := h.mult x hx
 obtain ⟨i, rfl⟩ : ∃ i, j = i + 1 := ⟨j - 1, by omega⟩
 rw [Nat.succ_mul] at h2
 refine ⟨by omega, ?_⟩
 rw [show x.length - sz = i * sz by omega]
 rcases Nat.eq_zero_or_pos i with rfl | hi
 ·left; simp
 ·exact .inr (h.shut x hx i hi (by omega))
def rmv (T : List (List Int)) (x : List Int) : List (List Int) := T.filter fun y => decide (y ≠ x)
theorem mem_rmv {T : List (List Int)} {x y : List Int} : y ∈ rmv T x ↔ y ∈ T ∧ y ≠ x := by unfold rmv; simp
theorem GoneG.up {w w' w3 : World} {T' : List (List Int)} {x : List Int} (hb : Below w.heap.size w w') (h : GoneG w' B bb r pp L c pg sz tm T T' x w3) : GoneG w B bb r pp L c pg sz tm T T' x w3 := by
 obtain ⟨F', h1, h2, h3⟩ := h
 refine ⟨F', h1, fun k hk => ?_, (Fb.of hb).trans h3 fun k hk => .inl hk⟩
 rcases h2 k hk with h' | h'
 ·exact .inl h'
 ·exact .inr (by have := hb.size; omega)
def RoomG (w : World) (B bb r : Nat) (pp : Option Addr) (L : Lay) (c : Cf) (pg sz : Nat) (tm : Int) (T : List (List Int)) (w' : World) : Prop :=
 (T.length < pg ∧ Below w.heap.size w w') ∨ (T.length = pg ∧ (∀ y ∈ T, lfB T sz y = true → tm ≤ L.us y) ∧ Below w.heap.size w w') ∨
 (T.length = pg ∧ ∃ x, x ∈ T ∧ lfB T sz x = true ∧ L.us x < tm ∧ (∀ y ∈ T, lfB T sz y = true → L.us x ≤ L.us y) ∧ GoneG w B bb r pp L c pg sz tm T (rmv T x) x w')
theorem RoomG.room {w w' : World} (h : T.length < pg) (hb : Below w.heap.size w w') : RoomG w B bb r pp L c pg sz tm T w' := .inl ⟨h, hb⟩
theorem RoomG.full {w w' : World} (h : T.length = pg) (ho : ∀ y ∈ T, lfB T sz y = true → tm ≤ L.us y) (hb : Below w.heap.size w w') : RoomG w B bb r pp L c pg sz tm T w' := .inr (.inl ⟨h, ho, hb⟩)
theorem RoomG.gone {w w' : World} (h : T.length = pg) (x : List Int) (hx : x ∈ T) (hl : lfB T sz x = true) (hu : L.us x < tm) (ho : ∀ y ∈ T, lfB T sz y = true → L.us x ≤ L.us y) (hg : GoneG w B bb r pp L c pg sz tm T (rmv T x) x w') : RoomG w B bb r pp L c pg sz tm T w' := .inr (.inr ⟨h, x, hx, hl, hu, ho, hg⟩)
set_option maxHeartbeats 4000000 in
theorem kroom_any {w : World} (h : KvB w B bb r pp L c pg sz tm T) (hz : 1 ≤ sz ∧ sz ≤ 16) (hn : T.Nodup) (hl : T.length ≤ pg) (hC : Cls T sz) :
  Calls Tryz.prog 111 #[.pointer (some ⟨B, 0, none⟩)] w fun e w' => e = .returned (.tuple #[]) ∧ RoomG w B bb r pp L c pg sz tm T w' := by
 have hcn := h.cnt hn
 have hFr := pfree_any pp L.hs w h.pool
 rw [h.hsl, hcn] at hFr
 have c1 := h.cells.2.1
 have HKv := hid fun (W : World) (hb : Below w.heap.size w W) => h.below hb
 have HUm := hid h.used
 have HCn := hid hcn
 have HC := hid hC
 clear hn hC hcn h
 by_cases hlt : T.length < pg
 ·have q1 : (0 : Int) < (pg : Int) - (T.length : Int) := by omega
  have HR : Hid (∀ W, Below w.heap.size w W → RoomG w B bb r pp L c pg sz tm T W) := fun W hb => .room hlt hb
  generalize (pg : Int) - (T.length : Int) = fr at *
  clear HKv HUm HCn HC
  go_enter Tryz.func111, Tryz.ntmps111
  go_wp2_with fail
  refine hFr.mono ?_
  rintro e w2 ⟨rfl, hb⟩
  have HB := hid (HR.out _ hb)
  clear hb hFr HR
  go_wp2
  (try simp only [Exit.inBlock, Exit.then])
  refine bodyPost_ret (results_none rfl _ _ _) rfl ?_
  exact ⟨rfl, HB.out⟩
 ·have hE : T.length = pg := by omega
  have hfr : (pg : Int) - (T.length : Int) = 0 := by omega
  rw [hfr] at hFr
  have HFull : Hid (∀ W, (∀ y ∈ T, lfB T sz y = true → tm ≤ L.us y) → Below w.heap.size w W → RoomG w B bb r pp L c pg sz tm T W) := fun W h1 hb => .full hE h1 hb
  have HGone : Hid (∀ W x, x ∈ T → lfB T sz x = true → L.us x < tm → (∀ y ∈ T, lfB T sz y = true → L.us x ≤ L.us y) → GoneG w B bb r pp L c pg sz tm T (rmv T x) x W → RoomG w B bb r pp L c pg sz tm T W) := fun W x h1 h2 h3 h4 h5 => .gone hE x h1 h2 h3 h4 h5
  have HMem : Hid (∀ y ∈ T, ∃ i, i < (usedL L.hs).length ∧ L.pgs y = (usedL L.hs)[i]?.getD 0) := fun y hy => by
   obtain ⟨i, hi, e⟩ := List.getElem_of_mem ((HUm.out (L.pgs y)).2 ⟨y, hy, rfl⟩)
   exact ⟨i, hi, by rw [List.getElem?_eq_getElem hi, e]; rfl⟩
  clear hlt hfr HCn HUm hE hl
  go_enter Tryz.func111, Tryz.ntmps111
  go_wp2_with fail
  refine hFr.mono ?_
  rintro e w2 ⟨rfl, hb⟩
  have HB2 := hid hb
  have hOl := kold_any (HKv.out _ hb) hz
  clear hb hFr c1
  go_wp2_with fail
  refine hOl.mono ?_
  rintro e w3 ⟨o, rfl, hO, hb⟩
  have HB3 := hid (HB2.out.trans (hb.mono HB2.out.size))
  have c4 := (HKv.out _ HB3.out).cells.2.2.2.2
  have HBq : Hid (∀ q : Nat, Below w.heap.size w (w3.drewN q)) := fun q => HB3.out.trans ((bel_dr w3 q).mono HB3.out.size)
  have HO := hid hO
  clear hb hOl hO HB2
  cases o with
  | none =>
   have HR : Hid (∀ q : Nat, RoomG w B bb r pp L c pg sz tm T (w3.drewN q)) := fun q => HFull.out _ (fun y hy hly => by
    obtain ⟨i, h1, h2⟩ := HMem.out y hy
    rw [HO.out.none rfl i h1 y hy h2] at hly
    cases hly) (HBq.out q)
   simp only [oP]
   clear HFull HGone HMem HO HKv HC HB3 HBq
   go_wp2_with fail
   go_quiet (fail)
   go_wp2
   go_end0
   exact ⟨rfl, HR.out _⟩
  | some x =>
   obtain ⟨hx, hlf, hmin⟩ := HO.out.some x rfl
   have n20 := ((HKv.out _ HB3.out).ncells hz.2 (.inr hx)).2.2.2.2
   have HMin : Hid (∀ y ∈ T, lfB T sz y = true → L.us x ≤ L.us y) := fun y hy hly => by
    obtain ⟨i, h1, h2⟩ := HMem.out y hy
    exact hmin i h1 y hy h2 hly
   simp only [oP]
   by_cases hu : L.us x < tm
   ·have hd : decide (L.us x < tm) = true := decide_eq_true hu
    have HLt := hid fun q : Nat => klet_any (HKv.out _ (HBq.out q)) hz hx (HC.out x hx).1 (HC.out x hx).2 (T' := rmv T x) (fun y => mem_rmv)
    have HR : Hid (∀ (q : Nat) (W : World), GoneG (w3.drewN q) B bb r pp L c pg sz tm T (rmv T x) x W → RoomG w B bb r pp L c pg sz tm T W) := fun q W hg => HGone.out W x hx hlf hu HMin.out (hg.up (HBq.out q))
    clear HFull HGone HMem HO HKv HC HB3 HBq HMin hmin hx hlf
    generalize L.us x = ux at *
    go_wp2_with fail
    go_quiet (fail)
    go_wp2_with fail
    refine (HLt.out _).mono ?_
    rintro e w4 ⟨rfl, hG⟩
    have HG := hid (HR.out _ _ hG)
    clear hG HLt HR
    go_wp2
    go_end0
    exact ⟨rfl, HG.out⟩
   ·have hd : decide (L.us x < tm) = false := decide_eq_false hu
    have HR : Hid (∀ q : Nat, RoomG w B bb r pp L c pg sz tm T (w3.drewN q)) := fun q => HFull.out _ (fun y hy hly => by
     have := HMin.out y hy hly
     omega) (HBq.out q)
    clear HFull HGone HMem HO HKv HC HB3 HBq HMin hmin hx hlf
    generalize L.us x = ux at *
    go_wp2_with fail
    go_quiet (fail)
    go_wp2
    go_end0
    exact ⟨rfl, HR.out _⟩
end
end Go.Proofs.YtjgggialnegddaaGreat
