/-
  The texts EnW7, EnW8, EnW9, EnGo, EnGo2 of this proof.
-/
import Derived.Test.YtjgggialnegddaaGreatPn42
import Derived.Test.YtjgggialnegddaaGreatPn41
import Derived.Test.YtjgggialnegddaaGreatPn29
import Derived.Deep.RegionHeld3
set_option linter.unusedVariables false
set_option maxRecDepth 1000000
namespace Go.Proofs.YtjgggialnegddaaGreat
open Go.RowKit Go.Maps
theorem OkR.tick {S : Rs} (h : OkR S) (t : Nat) : OkR { S with tk := t } := ⟨h.set, h.inc, h.one, h.few, h.ok⟩
section
variable {W W' : World} {B mb : Nat} {pm pc : Option Addr} {qv bv : Value} {nd : Int → Nat} {S : Rs} {bs qs : List At} {Fc It : Nat → Prop}
theorem EnI.recache (h : EnI W B mb pm pc qv bv nd S bs qs Fc It) (hb : Fb Fc W W') {Fc' It' : Nat → Prop} {tk' : Nat} (hc : CaAt W' pc S.s tk' Fc' It') (hF : ∀ k, Fc' k → Fc k ∨ W.heap.size ≤ k) (hi : ∀ k, It k → It' k) (hI : ∀ k, It' k → IntB W' k ∧ ¬ Fc' k) : EnI W' B mb pm pc qv bv nd { S with tk := tk' } bs qs Fc' It' := by
 have hone : ∀ k o, W.heap[k]? = some o → ¬ Fc k → W'.heap[k]? = some o := fun k o h1 h2 => hb.one h1 h2
 have hk : KpL W W' := h.kpl hb fun k hk => .inl (.inr (.inr (.inr (.inr (.inr hk)))))
 have hII := h.its hb fun k hk => .inl (.inr (.inr (.inr (.inr (.inr hk)))))
 refine ⟨h.ok.tick _, h.bsl, h.qsl, h.L, h.rb, h.rq, hone _ _ h.var h.Bc, ?_, hc, h.map.same (hb.block _ h.map.lt h.mbc), fun hk => ?_, own_blk h.qrow fun b e => hb.block b (World.ownsRow.lt h.qrow b e).2 (h.cq e), own_blk h.brow fun b e => hb.block b (World.ownsRow.lt h.brow b e).2 (h.cb e), h.qb, fun a ha => ((h.att a ha).keep (hb.block _ (h.old _ (.inr (.inr (.inr (.inr (.inl ⟨a, ha, rfl⟩)))))) (h.cn ha)) hII hk).mono hi, hI⟩
 ·obtain ⟨g, e, hg⟩ := h.md
  exact ⟨g, e, hk _ _ _ _ hg (by decide)⟩
 ·rcases hF _ hk with h' | h'
  ·exact h.mbc h'
  ·have := h.map.lt
   omega
theorem EnI.itIn (h : EnI W B mb pm pc qv bv nd S bs qs Fc It) (hb : Fb Fc W W') {Fc' : Nat → Prop} (hF : ∀ k, Fc' k → Fc k ∨ W.heap.size ≤ k) (k : Nat) (hk : It k) : IntB W' k ∧ ¬ Fc' k := by
 obtain ⟨h1, h2⟩ := h.itI k hk
 refine ⟨h1.same (hb.block k h1.lt h2), fun hf => ?_⟩
 rcases hF k hf with h' | h'
 ·exact h2 h'
 ·have := h1.lt
  omega
end
theorem Tryz.infoInt : (Tryz.prog.info? 3).map (fun i => (i.zero, i.size, i.bytes)) = some (some (.int .i64 0), 1, 8) := by kernel_rfl
theorem icut_from (b n cap k : Nat) (c2 : ¬ k = 0) (hk : k ≤ n) (hc : n ≤ cap) (hm : cap ≤ 9223372036854775807) : ∃ A : Addr, (∀ W : World,
  (Instr.sliceAt 41 (.slice (some ⟨b, 0, none⟩) n cap) (some (.int .i64 (k : Int))) none none).run Tryz.prog W = .ok (.slice (some A) (n - k) (cap - k)) W) ∧ (k < n → A = ⟨b, k, none⟩) := by
 obtain ⟨j0, ji, jz0, jz1, jz2⟩ := info_parts Tryz.infoInt
 have h1 : ∀ W : World, (Instr.sliceBound (.int .i64 (k : Int)) n .sliceB).run Tryz.prog W = .ok k W := fun W => by
  rw [run_sliceBound W .i64 (k : Int) n _ (by omega) (by omega)]; congr 1
 refine ⟨if cap = k then ⟨b, 0, none⟩ else ⟨b, k, none⟩, fun W => ?_, fun h => by rw [if_neg (by omega)]⟩
 by_cases c1 : cap = k
 ·subst c1
  simp [Instr.sliceAt, Instr.slice, run_underlying Tryz.underlying41, Instr.sliceBounds, h1, sizeOf, typeInfo, ji, jz1, Addr.add]
 ·simp [Instr.sliceAt, Instr.slice, run_underlying Tryz.underlying41, Instr.sliceBounds, h1, sizeOf, typeInfo, ji, jz1, Addr.add, c1, c2]
section
variable {w : World} {B mb : Nat} {pm pc : Option Addr} {qv bv : Value} {nd : Int → Nat} {S : Rs} {bs qs : List At} {Fc It : Nat → Prop}
def ThrE (w : World) (B mb : Nat) (pm pc : Option Addr) (qv bv : Value) (nd : Int → Nat) (S : Rs) (bs qs : List At) (Fc It : Nat → Prop) (ts : List Int) (q : Option Addr) (w' : World) : Prop :=
 ∃ ta Fc', StT w' q S.s.c ts ta ∧ (∀ k, mF ta k → It k ∨ w.heap.size ≤ k) ∧ EnI w' B mb pm pc qv bv nd { S with tk := S.tk + 1 } bs qs Fc' It ∧ (∀ k, Fc' k → Fc k) ∧ Fb Fc w w'
def FdI (w w2 : World) (c : Cf) (It : Nat → Prop) (TS : List Int) (n : Nat) (q : Value) (W : World) : Prop := ∃ g ta, q = .pointer (some ⟨g, 0, none⟩) ∧ StT W (some ⟨g, 0, none⟩) c (TS.take n) ta ∧ (∀ k, mF ta k → It k ∨ w.heap.size ≤ k) ∧ Below w2.heap.size w2 W
set_option maxHeartbeats 1000000 in
theorem ethrough_any (h : EnI w B mb pm pc qv bv nd S bs qs Fc It) (g cap : Nat) (ts : List Int) (hr : Reads .i64 w (some ⟨g, 0, none⟩) (1 + ts.length) cap (0 :: ts)) (hg : ¬ enF B mb qv bv nd S Fc g) (hl : ts.length ≤ 255) (hv : ∀ t ∈ ts, 0 ≤ t ∧ t < S.s.c.vocab) (ht : S.tk ≤ 99990) :
  Calls Tryz.prog 78 #[.pointer (some ⟨B, 0, none⟩), .slice (some ⟨g, 0, none⟩) (1 + ts.length) cap] w fun e w' => ∃ q, e = .returned (.pointer q) ∧ ThrE w B mb pm pc qv bv nd S bs qs Fc It (0 :: ts) q w' := by
 have hmay := h.may
 have hvoc : 0 < S.s.c.vocab := by
  have := hmay
  unfold mayB at this
  simp only [Bool.and_eq_true, btw_iff] at this
  omega
 have htk : Tk (0 :: ts) := fun x hx => by
  have hc : S.s.c.vocab ≤ 9223372036854775807 := by
   have := hmay
   unfold mayB at this
   simp only [Bool.and_eq_true, btw_iff] at this
   omega
  rcases List.mem_cons.1 hx with rfl | hx
  ·omega
  ·have := hv x hx; omega
 have hFi := ca_find (some ⟨g, 0, none⟩) (1 + ts.length) cap (0 :: ts) w h.ca hmay hr htk (fun q hq => by cases hq; exact fun hf => hg (.inr (.inr (.inr (.inr (.inr hf)))))) (by omega) ht
 have c1 := h.cells.2.1
 obtain ⟨TS, hTS⟩ : ∃ TS, (0 : Int) :: ts = TS := ⟨_, rfl⟩
 obtain ⟨N, hN⟩ : ∃ N, 1 + ts.length = N := ⟨_, rfl⟩
 have hTl : TS.length = N := by rw [← hTS, List.length_cons]; omega
 have hTv : ∀ i (hi : i < N), 0 ≤ TS[i]?.getD 0 ∧ TS[i]?.getD 0 < S.s.c.vocab := fun i hi => by
  rw [← hTS]
  cases i with
  | zero => simpa using hvoc
  | succ i =>
   rw [List.getElem?_cons_succ, List.getElem?_eq_getElem (by omega)]
   exact hv _ (List.getElem_mem _)
 have hT1 : TS.take 1 = [0] := by rw [← hTS]; rfl
 rw [hTS, hN] at hFi hr
 rw [hTS, hN]
 have r1 := hr.room
 have m1 := hr.most
 have hN1 : 1 ≤ N := by omega
 have hN2 : N ≤ 256 := by omega
 have H := hid h
 have HR := hid hr
 have HTv := hid hTv
 have HTl := hid hTl
 have HT1 := hid hT1
 have HG := hid hg
 clear h hr hg hTv hTl hT1 hv htk hTS hN hvoc
 go_enter Tryz.func78, Tryz.ntmps78
 go_wp2_with fail
 refine hFi.mono ?_
 rintro e w2 ⟨q, n, Fc', rfl, hnN, hq, hc2, hF2, hb2⟩
 have h2 := H.out.recache hb2 hc2 (fun k hk => .inl (hF2 k hk)) (fun _ hk => hk) (H.out.itIn hb2 fun k hk => .inl (hF2 k hk))
 have H2 := hid h2
 have HB2 := hid hb2
 have HF2 := hid hF2
 have HR2 : Hid (Reads .i64 w2 (some ⟨g, 0, none⟩) N cap TS) := HR.out.same fun x hx => by
  obtain ⟨a, e, rfl⟩ := hx
  cases e
  obtain ⟨b', off', e1, e2⟩ := HR.out.cell 0 (by omega)
  cases e1
  exact hb2.block _ (World.block_lt_of_cell? _ _ e2) fun hf => HG.out (.inr (.inr (.inr (.inr (.inr hf)))))
 have hwT : Hid (w.heap.size ≤ w2.heap.size) := hb2.size
 -- what the loop does
 have HEnd : Hid (∀ (W : World) (v : Value), FdI w w2 S.s.c It TS N v W → ∃ q, v = .pointer q ∧ ThrE w B mb pm pc qv bv nd S bs qs Fc It TS q W) := fun W v ⟨g', ta, e, k1, k2, k3⟩ => by
  rw [List.take_of_length_le (by rw [HTl.out]; exact Nat.le_refl _)] at k1
  exact ⟨_, e, ta, Fc', k1, k2, H2.out.below k3, HF2.out, HB2.out.below k3⟩
 have HRd : Hid (∀ (W : World) (i : Nat), Below w2.heap.size w2 W → i < N → W.cell? ⟨g, i, none⟩ = some (.int .i64 (TS[i]?.getD 0))) := fun W i hb hi => by
  obtain ⟨b', off', e1, e2⟩ := (HR2.out.below hb).cell i hi
  cases e1
  rw [Nat.zero_add] at e2
  exact e2
 have HFeed : Hid (∀ (W : World) (i : Nat) (v : Value), i < N → 1 ≤ i → FdI w w2 S.s.c It TS i v W → ∃ g', v = .pointer (some ⟨g', 0, none⟩) ∧ Calls Tryz.prog 81 #[.pointer (some ⟨g', 0, none⟩), .int .i64 (TS[i]?.getD 0)] W fun e w' => ∃ q', e = .returned (.tuple #[.pointer q', .int .i64 0]) ∧ FdI w w2 S.s.c It TS (i + 1) (.pointer q') w') := fun W i v hi h1 ⟨g', ta, e, k1, k2, k3⟩ => by
  refine ⟨g', e, (efeed_any (TS[i]?.getD 0) W k1 hmay (HTv.out i hi).1 (HTv.out i hi).2 (by rw [List.length_take, HTl.out]; omega)).mono ?_⟩
  rintro e w' ⟨q', ta', rfl, j1, j2, j3⟩
  obtain ⟨g2, rfl⟩ := j1.ptr
  have hsnoc : TS.take (i + 1) = TS.take i ++ [TS[i]?.getD 0] := by
   rw [List.take_add_one, List.getElem?_eq_getElem (by rw [HTl.out]; exact hi)]
   rfl
  refine ⟨_, rfl, g2, ta', rfl, by rw [hsnoc]; exact j1, fun k hk => ?_, k3.trans (j3.mono k3.size)⟩
  rcases j2 k hk with h' | h'
  ·exact k2 k h'
  ·exact .inr (Nat.le_trans hwT.out (Nat.le_trans k3.size h'))
 clear hFi c1 H HB2 HF2 HR HG hb2 hc2 hF2 HR2 HTv H2
 rcases hq with ⟨rfl, rfl⟩ | ⟨hn0, ta0, hs0, hp0⟩
 ·have hNw := enew_any pm S.s.c w2 h2.md hmay
  have c0 := h2.cells.1
  clear h2 hnN
  go_wp2_with fail
  refine hNw.mono ?_
  rintro e w3 ⟨q3, ta3, rfl, k1, k2, k3⟩
  obtain ⟨g3, rfl⟩ := k1.ptr
  have hLn := elen_any w3 k1
  rw [show ([0] : List Int).length = 1 from rfl] at hLn
  obtain ⟨n0, hn0⟩ : ∃ n0 : Nat, n0 = 1 := ⟨_, rfl⟩
  have HD0 : Hid (FdI w w2 S.s.c It TS (n0 + 0) (.pointer (some ⟨g3, 0, none⟩)) w3) := ⟨g3, ta3, rfl, by rw [hn0]; rw [HT1.out]; exact k1, fun k hk => .inr (Nat.le_trans hwT.out (k2 k hk)), k3⟩
  clear hNw c0 k1 k2 k3 HT1
  go_wp2_with fail
  refine hLn.mono ?_
  rintro e w' ⟨rfl, rfl⟩
  clear hLn
  have e1 : (1 : Nat) = n0 := hn0.symm
  rw [e1]
  have hnN : n0 ≤ N := by omega
  have hn1 : 1 ≤ n0 := by omega
  have HN0 := hid hn0
  clear hn0 e1
  obtain ⟨A, hs2, hA⟩ := icut_from g N cap n0 (by omega) hnN r1 m1
  obtain ⟨d, hd⟩ : ∃ d, N - n0 = d := ⟨_, rfl⟩
  rw [hd] at hs2
  have HA : Hid (∀ i, i < d → A = ⟨g, n0, none⟩) := fun i hi => hA (by omega)
  clear hA
  generalize cap - n0 = c2 at *
  go_wp2_with fail
  go_loopw [5, 34] (fun v i W => ∃ k : Nat, k ≤ d ∧ i = .int .i64 k ∧ Hid (FdI w w2 S.s.c It TS (n0 + k) v W)) (fun _ i _ => d - (intOf i).toNat)
  case atStart => exact ⟨0, by omega, rfl, HD0⟩
  case round =>
  obtain ⟨k, hk, rfl, HD⟩ := hrel
  rename World => wr
  clear HD0
  by_cases hlt : k < d
  ·have q1 : (k : Int) < (d : Int) := by omega
   have hbw : Below w2.heap.size w2 wr := by obtain ⟨_, _, _, _, _, h⟩ := HD.out; exact h
   obtain ⟨g', e5, hFd⟩ := HFeed.out wr (n0 + k) _ (by omega) (by omega) HD.out
   subst e5
   have hcell := HRd.out wr (n0 + k) hbw (by omega)
   have hAe := HA.out k hlt
   subst hAe
   generalize TS[n0 + k]?.getD 0 = y at *
   clear HD hbw HRd HFeed HEnd
   go_wp2_with fail
   refine hFd.mono ?_
   rintro e w3 ⟨q', rfl, hD3⟩
   have HD3 : Hid (FdI w w2 S.s.c It TS (n0 + (k + 1)) (.pointer q') w3) := hD3
   clear hD3 hFd hcell
   go_wp2_with fail
   go_round
   case rel => exact ⟨k + 1, by omega, by go_num, HD3⟩
   case measure => simp [intOf]; omega
  ·obtain rfl : k = d := by omega
   have q1 : ¬ (k : Int) < (k : Int) := by omega
   obtain ⟨q5, e5, hT5⟩ := HEnd.out wr _ (by have := HD.out; rw [show n0 + k = N by omega] at this; exact this)
   subst e5
   have HT5 := hid hT5
   clear HD HEnd HFeed HRd hT5 HA
   go_wp2
   go_ret
   exact ⟨_, rfl, HT5.out⟩
 ·have c0 := h2.cells.1
  obtain ⟨n0, hn⟩ : ∃ n0 : Nat, n0 = n := ⟨_, rfl⟩
  obtain ⟨g3, rfl⟩ := hs0.ptr
  have HD0 : Hid (FdI w w2 S.s.c It TS (n0 + 0) (.pointer (some ⟨g3, 0, none⟩)) w2) := ⟨g3, ta0, rfl, by rw [hn]; exact hs0, hp0, Below.refl _ _⟩
  rw [← hn] at hn0 hnN ⊢
  have z0 : ¬ (n0 : Int) = 0 := by omega
  have z1 : ((n0 : Int) == 0) = false := by simp; omega
  have hn1 : 1 ≤ n0 := by omega
  clear h2 hs0 hp0 HT1 hn hn0 c0
  obtain ⟨A, hs2, hA⟩ := icut_from g N cap n0 (by omega) hnN r1 m1
  obtain ⟨d, hd⟩ : ∃ d, N - n0 = d := ⟨_, rfl⟩
  rw [hd] at hs2
  have HA : Hid (∀ i, i < d → A = ⟨g, n0, none⟩) := fun i hi => hA (by omega)
  clear hA
  generalize cap - n0 = c2 at *
  go_wp2_with fail
  go_loopw [5, 34] (fun v i W => ∃ k : Nat, k ≤ d ∧ i = .int .i64 k ∧ Hid (FdI w w2 S.s.c It TS (n0 + k) v W)) (fun _ i _ => d - (intOf i).toNat)
  case atStart => exact ⟨0, by omega, rfl, HD0⟩
  case round =>
  obtain ⟨k, hk, rfl, HD⟩ := hrel
  rename World => wr
  clear HD0
  by_cases hlt : k < d
  ·have q1 : (k : Int) < (d : Int) := by omega
   have hbw : Below w2.heap.size w2 wr := by obtain ⟨_, _, _, _, _, h⟩ := HD.out; exact h
   obtain ⟨g', e5, hFd⟩ := HFeed.out wr (n0 + k) _ (by omega) (by omega) HD.out
   subst e5
   have hcell := HRd.out wr (n0 + k) hbw (by omega)
   have hAe := HA.out k hlt
   subst hAe
   generalize TS[n0 + k]?.getD 0 = y at *
   clear HD hbw HRd HFeed HEnd
   go_wp2_with fail
   refine hFd.mono ?_
   rintro e w3 ⟨q', rfl, hD3⟩
   have HD3 : Hid (FdI w w2 S.s.c It TS (n0 + (k + 1)) (.pointer q') w3) := hD3
   clear hD3 hFd hcell
   go_wp2_with fail
   go_round
   case rel => exact ⟨k + 1, by omega, by go_num, HD3⟩
   case measure => simp [intOf]; omega
  ·obtain rfl : k = d := by omega
   have q1 : ¬ (k : Int) < (k : Int) := by omega
   obtain ⟨q5, e5, hT5⟩ := HEnd.out wr _ (by have := HD.out; rw [show n0 + k = N by omega] at this; exact this)
   subst e5
   have HT5 := hid hT5
   clear HD HEnd HFeed HRd hT5 HA
   go_wp2
   go_ret
   exact ⟨_, rfl, HT5.out⟩
end
end Go.Proofs.YtjgggialnegddaaGreat
namespace Go.Proofs.YtjgggialnegddaaGreat
open Go.RowKit Go.Maps
section
variable {w : World} {B mb : Nat} {pm pc : Option Addr} {qv bv : Value} {nd : Int → Nat} {S : Rs} {bs qs : List At} {Fc It : Nat → Prop}
theorem ThrE.up {W w' : World} {ts : List Int} {q : Option Addr} (h : ThrE W B mb pm pc qv bv nd S bs qs Fc It ts q w') (hb : Below w.heap.size w W) : ThrE w B mb pm pc qv bv nd S bs qs Fc It ts q w' := by
 obtain ⟨ta, Fc', h1, h2, h3, h4, h5⟩ := h
 refine ⟨ta, Fc', h1, fun k hk => (h2 k hk).elim .inl fun h' => .inr (Nat.le_trans hb.size h'), h3, h4, (Fb.of hb).trans h5 fun k hk => .inl hk⟩
theorem refL_take (c : Cf) (seed : Int) (ts : List Int) {m k : Nat} (h : k ≤ m) : refL c seed ts (min m k) = (refL c seed ts m).take k := by rw [Nat.min_eq_right h]; exact refL_less c seed m ts k h
set_option maxHeartbeats 1000000 in
theorem ebegin_any (h : EnI w B mb pm pc qv bv nd S bs qs Fc It) {a : At} (ha : a ∈ S.L) (ht : S.tk ≤ 99990) :
  Calls Tryz.prog 55 #[.pointer (some ⟨B, 0, none⟩), .pointer (some ⟨nd a.id, 0, none⟩)] w fun e w' => ∃ q, e = .returned (.pointer q) ∧ ThrE w B mb pm pc qv bv nd S bs qs Fc It (0 :: a.ts ++ (a.text S.s.c).take a.k) q w' := by
 obtain ⟨pa, pcp, sp, hv, hr, hp, _, hvoc⟩ := h.att a ha
 obtain ⟨_, _, hmo, hkm, hlk⟩ := h.ok.ok a ha
 obtain ⟨gm, hgm, _⟩ := h.md
 have hl255 : a.ts.length ≤ 255 := by omega
 have HK : Hid (∀ W : World, W.heap[B]? = w.heap[B]? → W.heap[nd a.id]? = w.heap[nd a.id]? → W.cell? ⟨B, 0, none⟩ = some (.pointer pm) ∧ W.cell? ⟨nd a.id, 1, none⟩ = some (.int .u64 a.seed) ∧ W.cell? ⟨nd a.id, 2, none⟩ = some (.slice pa a.ts.length pcp) ∧ W.cell? ⟨nd a.id, 3, none⟩ = some (.int .i64 a.most) ∧ W.cell? ⟨nd a.id, 4, none⟩ = some (.int .i64 a.k)) := fun W e1 e2 => by
  obtain ⟨_, k1, k2, k3, k4, _⟩ := At_cells (e2.trans hv)
  exact ⟨by rw [cell_of_row _ _ _ _ _ _ (e1.trans h.var)]; rfl, k1, k2, k3, k4⟩
 have HKb : Hid (∀ W : World, Below w.heap.size w W → W.cell? ⟨B, 0, none⟩ = some (.pointer pm) ∧ W.cell? ⟨nd a.id, 1, none⟩ = some (.int .u64 a.seed) ∧ W.cell? ⟨nd a.id, 2, none⟩ = some (.slice pa a.ts.length pcp) ∧ W.cell? ⟨nd a.id, 3, none⟩ = some (.int .i64 a.most) ∧ W.cell? ⟨nd a.id, 4, none⟩ = some (.int .i64 a.k)) := fun W hb => HK.out W (hb.block _ (lt_of_block h.var)) (hb.block _ (lt_of_block hv))
 have HKt : Hid (∀ (W : World) (ts : List Int) (q : Option Addr), ThrE w B mb pm pc qv bv nd S bs qs Fc It ts q W → W.cell? ⟨B, 0, none⟩ = some (.pointer pm) ∧ W.cell? ⟨nd a.id, 1, none⟩ = some (.int .u64 a.seed) ∧ W.cell? ⟨nd a.id, 2, none⟩ = some (.slice pa a.ts.length pcp) ∧ W.cell? ⟨nd a.id, 3, none⟩ = some (.int .i64 a.most) ∧ W.cell? ⟨nd a.id, 4, none⟩ = some (.int .i64 a.k)) := fun W ts q ⟨ta, Fc', _, _, _, _, hF⟩ => HK.out W (hF.block _ (lt_of_block h.var) h.Bc) (hF.block _ (lt_of_block hv) (h.cn ha))
 have HT := hid fun (W : World) (hb : Below w.heap.size w W) => etext_any (jbA a pa pcp) W (Reads.below hr hb) (by show a.ts.length ≤ 1000; omega)
 have HTh : Hid (∀ (W : World) (g cap : Nat), Below w.heap.size w W → Reads .i64 W (some ⟨g, 0, none⟩) (1 + a.ts.length) cap (0 :: a.ts) → w.heap.size ≤ g → Calls Tryz.prog 78 #[.pointer (some ⟨B, 0, none⟩), .slice (some ⟨g, 0, none⟩) (1 + a.ts.length) cap] W fun e w' => ∃ q, e = .returned (.pointer q) ∧ ThrE w B mb pm pc qv bv nd S bs qs Fc It (0 :: a.ts) q w') := fun W g cap hb hR hg => by
  refine (ethrough_any (h.below hb) g cap a.ts hR (fun hf => by have := h.old g hf; omega) hl255 hvoc ht).mono ?_
  rintro e w' ⟨q, rfl, hT⟩
  exact ⟨q, rfl, hT.up hb⟩
 have HFr : Hid (∀ (W : World) (q : Option Addr), ThrE w B mb pm pc qv bv nd S bs qs Fc It (0 :: a.ts) q W → Calls Tryz.prog 56 #[.pointer pm, .agg (JbV (jbA a pa pcp)), .pointer q, .int .i64 0, .int .i64 a.k] W fun e w' => ∃ a1 n1 c1 q' b, e = .returned (.tuple #[.slice a1 n1 c1, .pointer q', .bool b]) ∧ ThrE w B mb pm pc qv bv nd S bs qs Fc It (0 :: a.ts ++ (a.text S.s.c).take a.k) q' w') := fun W q hT => by
  obtain ⟨tb, Fc', h1, h2, h3, h4, h5⟩ := id hT
  have hJ : JbIn W (jbA a pa pcp) := hr.same fun x hx => h5.block x (h.oldI x (hp x hx)) (h.itI x (hp x hx)).2
  have hM : ∃ g, pm = some ⟨g, 0, none⟩ ∧ W.heap[g]? = some (.cells (CfV S.s.c) 100 (0, 0)) := h3.md
  refine (efrom_any pm q S.s.c (jbA a pa pcp) (0 :: a.ts) tb 0 a.k a.most W hM h.may hJ h1 (by show (a.most : Int) = _; omega) (by show (a.most : Int) ≤ 256; omega) (by omega)).mono ?_
  rintro e w' ⟨a1, c1, q', b, ta, rfl, k1, k2, k3, k4, _, _, k5⟩
  have heq : refL S.s.c (jbA a pa pcp).seed (0 :: a.ts) (min a.most a.k) = (a.text S.s.c).take a.k := refL_take _ _ _ hkm
  rw [heq] at k3
  refine ⟨a1, _, c1, q', b, rfl, ?_⟩
  obtain ⟨ta0, Fc0, g1, g2, g3, g4, g5⟩ := hT
  exact ⟨ta, Fc', k3, fun k hk => (k4 k hk).elim (h2 k) fun h' => .inr (Nat.le_trans h5.size h'), h3.below k5, h4, h5.below k5⟩
 obtain ⟨k0, k1, k2, k3, k4⟩ := HKb.out w (Below.refl _ _)
 unfold JbV jbA at HT HFr
 simp only at HT HFr
 clear h hv hr hp HK hvoc ha hmo hkm hlk hgm
 generalize hTX : (0 :: a.ts ++ (a.text S.s.c).take a.k) = TX at *
 clear hTX
 obtain ⟨id, sd, ts', mo, kk, rn⟩ := a
 simp only at *
 generalize hln : ts'.length = lp at *
 clear hln
 go_enter Tryz.func55, Tryz.ntmps55
 go_wp2_with fail
 have HV : Hid (Below w.heap.size w w.drew) := (Below.refl _ _).drew
 clear k0 k1 k2 k3 k4
 go_region_held3 (fun W : World => W.cell? ⟨B, 0, none⟩ = some (.pointer pm) ∧ W.cell? ⟨nd id, 1, none⟩ = some (.int .u64 sd) ∧ W.cell? ⟨nd id, 2, none⟩ = some (.slice pa lp pcp) ∧ W.cell? ⟨nd id, 3, none⟩ = some (.int .i64 mo) ∧ W.cell? ⟨nd id, 4, none⟩ = some (.int .i64 kk)) (first | (with_reducible exact HKb.out _ (Below.refl _ _)) | (with_reducible exact HKb.out _ HV.out) | (with_reducible exact HKt.out _ _ _ HQ.out) | (with_reducible exact HKt.out _ _ _ HQ4.out))
  (first
   | (go_at_call 79; (with_reducible refine (HT.out _ HV.out).mono ?_); rintro e w2 ⟨g2, d2, rfl, hR2, hg2, hb⟩; replace HV := hid (HV.out.trans (hb.mono HV.out.size)); have HR2 := hid hR2; have HG2 : Hid (w.heap.size ≤ g2) := hg2; clear hb hR2 hg2)
   | (go_at_call 78; (with_reducible refine (HTh.out _ _ _ HV.out HR2.out HG2.out).mono ?_); rintro e w3 ⟨q3, rfl, hQ3⟩; have HQ := hid hQ3; clear hQ3 HV HR2 HG2)
   | (go_at_call 56; (with_reducible refine (HFr.out _ _ HQ.out).mono ?_); rintro e w4 ⟨a4, n4, c4, q4, b4, rfl, hQ4⟩; have HQ4 := hid hQ4; clear hQ4)
   | fail)
 all_goals
  go_wp2_with fail
  go_ret
  exact ⟨_, rfl, HQ4.out⟩
end
end Go.Proofs.YtjgggialnegddaaGreat
namespace Go.Proofs.YtjgggialnegddaaGreat
open Go.RowKit Go.Maps
theorem nodup_inj : ∀ {L : List At}, (L.map (·.id)).Nodup → ∀ {x y : At}, x ∈ L → y ∈ L → x.id = y.id → x = y
 | [], _, x, y, hx, _, _ => by cases hx
 | a :: L, hn, x, y, hx, hy, e => by
  rw [List.map_cons, List.nodup_cons] at hn
  rcases List.mem_cons.1 hx with e1 | h1
  ·rcases List.mem_cons.1 hy with e2 | h2
   ·rw [e1, e2]
   ·exact absurd (List.mem_map.2 ⟨y, h2, by rw [← e, e1]⟩) hn.1
  ·rcases List.mem_cons.1 hy with e2 | h2
   ·exact absurd (List.mem_map.2 ⟨x, h1, by rw [e, e2]⟩) hn.1
   ·exact nodup_inj hn.2 h1 h2 e
theorem hasB_ids {L M : List At} (h : L.map (·.id) = M.map (·.id)) (y : Int) : hasB L y = hasB M y := by rw [Bool.eq_iff_iff, hasB_iff, hasB_iff, h]
theorem ids_mid {xs ys : List At} {a a' : At} (h : a'.id = a.id) : (xs ++ a' :: ys).map (·.id) = (xs ++ a :: ys).map (·.id) := by simp [h]
section
variable {W W' : World} {B mb : Nat} {pm pc : Option Addr} {qv bv : Value} {nd : Int → Nat} {S : Rs} {xs ys qs : List At} {a : At} {Fc It : Nat → Prop}
theorem EnI.aL (h : EnI W B mb pm pc qv bv nd S (xs ++ a :: ys) qs Fc It) : a ∈ S.L := by rw [h.L]; simp
theorem EnI.setA (h : EnI W B mb pm pc qv bv nd S (xs ++ a :: ys) qs Fc It) (hb : Fb (at1 (nd a.id)) W W') {a' : At} (hid : a'.id = a.id) (hrun : a'.run = a.run) {It' : Nat → Prop} (hv : AtIn W' S.s.c (nd a.id) a' It') (hok : isU a'.id ∧ isU a'.seed ∧ a'.most ≤ 256 ∧ a'.k ≤ a'.most ∧ a'.ts.length + a'.k < 256) (hi : ∀ k, It k → It' k) (hI : ∀ k, It' k → IntB W' k ∧ ¬ Fc k) :
  EnI W' B mb pm pc qv bv nd { S with L := (xs ++ a' :: ys) ++ qs } (xs ++ a' :: ys) qs Fc It' := by
 have haL := h.aL
 have hids : ((xs ++ a' :: ys) ++ qs).map (·.id) = S.L.map (·.id) := by rw [h.L, List.map_append, ids_mid hid, ← List.map_append]
 have hlen : ((xs ++ a' :: ys) ++ qs).length = S.L.length := by rw [h.L]; simp
 have hen : ∀ k, at1 (nd a.id) k → enF B mb qv bv nd S Fc k ∨ W.heap.size ≤ k := fun k hk => .inl (.inr (.inr (.inr (.inr (.inl ⟨a, haL, hk⟩)))))
 have hk : KpL W W' := h.kpl hb hen
 have hII := h.its hb hen
 have hnb : ∀ k, k ≠ nd a.id → k < W.heap.size → W'.heap[k]? = W.heap[k]? := fun k hne hlt => hb.block k hlt fun e => hne e
 refine ⟨⟨h.ok.set, h.ok.inc, ?_, ?_, fun x hx => ?_⟩, ?_, h.qsl, rfl, fun x hx => ?_, h.rq, ?_, ?_, ?_, ?_, h.mbc, ?_, ?_, h.qb, fun x hx => ?_, hI⟩
 ·show (((xs ++ a' :: ys) ++ qs).map (·.id)).Nodup
  rw [hids]
  exact h.ok.one
 ·show ((((xs ++ a' :: ys) ++ qs).length : Nat) : Int) ≤ S.s.q + S.s.b
  rw [hlen]
  exact h.ok.few
 ·have hx' : x ∈ (xs ++ a' :: ys) ++ qs := hx
  rcases List.mem_append.1 hx' with hx' | hx'
  ·rcases List.mem_append.1 hx' with hx' | hx'
   ·exact h.ok.ok x (by rw [h.L]; simp [hx'])
   ·rcases List.mem_cons.1 hx' with rfl | hx'
    ·exact hok
    ·exact h.ok.ok x (by rw [h.L]; simp [hx'])
  ·exact h.ok.ok x (by rw [h.L]; simp [hx'])
 ·have := h.bsl
  simp only [List.length_append, List.length_cons] at this ⊢
  exact this
 ·rcases List.mem_append.1 hx with hx' | hx'
  ·exact h.rb x (by simp [hx'])
  ·rcases List.mem_cons.1 hx' with rfl | hx'
   ·rw [hrun]; exact h.rb a (by simp)
   ·exact h.rb x (by simp [hx'])
 ·exact (hnb B (Ne.symm (h.Bn haL)) (lt_of_block h.var)).trans h.var
 ·obtain ⟨g, e, hg⟩ := h.md
  exact ⟨g, e, hk _ _ _ _ hg (by decide)⟩
 ·exact (h.ca.keep hb.size (fun k hk' => hnb k (fun e => h.cn haL (e ▸ hk')) (h.ca.old k hk')) hII hk).mono hi (Nat.le_refl _)
 ·show AmAt W' mb ((xs ++ a' :: ys) ++ qs).length (mapF ((xs ++ a' :: ys) ++ qs) nd)
  rw [hlen]
  refine (h.map.ext fun y _ => ?_).same (hnb mb (Ne.symm (h.mn haL)) h.map.lt)
  unfold mapF
  rw [hasB_ids hids]
 ·exact own_blk h.qrow fun b e => hnb b (fun e2 => h.qn haL (by rw [e, e2])) (World.ownsRow.lt h.qrow b e).2
 ·rw [ids_mid hid]
  exact own_blk h.brow fun b e => hnb b (fun e2 => h.bn haL (by rw [e, e2])) (World.ownsRow.lt h.brow b e).2
 ·have hx' : x ∈ (xs ++ a' :: ys) ++ qs := hx
  by_cases he : x.id = a.id
  ·have : x = a' := by
    have hn : (((xs ++ a' :: ys) ++ qs).map (·.id)).Nodup := by rw [hids]; exact h.ok.one
    have hm : a' ∈ (xs ++ a' :: ys) ++ qs := by simp
    exact nodup_inj hn hx' hm (by rw [he, hid])
   rw [this, hid]
   exact hv
  ·have hxL : x ∈ S.L := by
    rw [h.L]
    rcases List.mem_append.1 hx' with hx' | hx'
    ·rcases List.mem_append.1 hx' with hx' | hx'
     ·simp [hx']
     ·rcases List.mem_cons.1 hx' with rfl | hx'
      ·exact absurd hid he
      ·simp [hx']
    ·simp [hx']
   exact ((h.att x hxL).keep (hnb _ (fun e => he (h.ndi hxL haL e)) (h.old _ (.inr (.inr (.inr (.inr (.inl ⟨x, hxL, rfl⟩))))))) hII hk).mono hi
theorem EnI.msgF {bs : List At} (h : EnI W B mb pm pc qv bv nd S bs qs Fc It) {k : Nat} {cur : Array Value} {fz : Nat × Nat} (hc : W.heap[k]? = some (.cells cur 55 fz)) : ¬ enF B mb qv bv nd S Fc k := fun hk => by
 rcases h.kind hk with ⟨cur', t', fz', h1, h2⟩ | ⟨es, cl, h1⟩
 ·rw [hc] at h1
  simp at h1
  obtain ⟨_, rfl, _⟩ := h1
  rcases h2 with h2 | h2 | h2 | h2 | h2 | h2 | ⟨h2, _⟩ | h2 <;> simp at h2
 ·rw [hc] at h1
  simp at h1
theorem dropL_mid {L xs ys qs : List At} {a a' : At} (hL : L = (xs ++ a' :: ys) ++ qs) (hn : (L.map (·.id)).Nodup) (hid : a'.id = a.id) : dropL (xs ++ a' :: ys) a.id = xs ++ ys ∧ dropL qs a.id = qs := by
 subst hL
 have key : ∀ l : List At, a'.id ∉ l.map (·.id) → dropL l a.id = l := fun l hl => by
  unfold dropL
  rw [List.filter_eq_self]
  intro x hx
  have : x.id ≠ a.id := fun e => hl (List.mem_map.2 ⟨x, hx, by rw [e, hid]⟩)
  simpa using this
 simp only [List.map_append, List.map_cons, List.append_assoc, List.cons_append] at hn
 rw [List.nodup_append] at hn
 obtain ⟨h1, h2, h3⟩ := hn
 rw [List.nodup_cons] at h2
 have hx : a'.id ∉ xs.map (·.id) := fun hm => h3 _ hm _ (List.mem_cons_self ..) rfl
 have hy : a'.id ∉ ys.map (·.id) := fun hm => h2.1 (List.mem_append_left _ hm)
 have hq : a'.id ∉ qs.map (·.id) := fun hm => h2.1 (List.mem_append_right _ hm)
 refine ⟨?_, key qs hq⟩
 rw [dropL_app, key xs hx, show dropL (a' :: ys) a.id = dropL ys a.id by simp [dropL, hid], key ys hy]
end
end Go.Proofs.YtjgggialnegddaaGreat
namespace Go.Proofs.YtjgggialnegddaaGreat
open Go.RowKit Go.Maps
theorem EnI.monoI {W : World} {B mb : Nat} {pm pc : Option Addr} {qv bv : Value} {nd : Int → Nat} {S : Rs} {bs qs : List At} {Fc It : Nat → Prop} (h : EnI W B mb pm pc qv bv nd S bs qs Fc It) {It' : Nat → Prop} (hi : ∀ k, It k → It' k) (hI : ∀ k, It' k → IntB W k ∧ ¬ Fc k) {t : Nat} (ht : S.tk ≤ t) : EnI W B mb pm pc qv bv nd { S with tk := t } bs qs Fc It' :=
 ⟨h.ok.tick _, h.bsl, h.qsl, h.L, h.rb, h.rq, h.var, h.md, h.ca.mono hi ht, h.map, h.mbc, h.qrow, h.brow, h.qb, fun a ha => (h.att a ha).mono hi, hI⟩
section
variable (w : World) (B mb : Nat) (pm pc : Option Addr) (qv bv : Value) (nd : Int → Nat) (S : Rs) (xs : List At) (a : At) (ys qs : List At) (F It : Nat → Prop) (pa : Option Addr) (pcp : Nat)
def GoF (q q2 : Option Addr) (a' : At) (T : List Int) (a2 : Option Addr) (c2 : Nat) (v : Value) (ms : List Mg) (W : World) : Prop :=
 ∃ ta2 ds Fc1 It1, EnI W B mb pm pc qv bv nd { S with tk := S.tk + 1 } (xs ++ a :: ys) qs Fc1 It1 ∧ W.heap[nd a.id]? = some (.cells (AtV a pa pcp q) 106 (0, 0)) ∧ Reads .i64 W pa a.ts.length pcp a.ts ∧ (∀ k, mF pa k → It1 k) ∧ StT W q2 S.s.c (stA S.s.c a') ta2 ∧ (∀ k, mF ta2 k → It1 k) ∧ Reads .i64 W a2 T.length c2 T ∧ (∀ p, a2 = some p → w.heap.size ≤ p.block ∧ It1 p.block) ∧ MRow w.heap.size W v ms ds It1 ∧ (∀ k, enF B mb qv bv nd S Fc1 k → F k ∨ w.heap.size ≤ k) ∧ (∀ k, It1 k → It k ∨ w.heap.size ≤ k) ∧ Fb F w W
def GoD (q2 : Option Addr) (a' : At) (v : Value) (ms : List Mg) (t : Nat) (W : World) : Prop :=
 ∃ ta2 ds Fc1 It1, EnI W B mb pm pc qv bv nd { S with L := (xs ++ a' :: ys) ++ qs, tk := t } (xs ++ a' :: ys) qs Fc1 It1 ∧ W.heap[nd a.id]? = some (.cells (AtV a' pa pcp q2) 106 (0, 0)) ∧ StT W q2 S.s.c (stA S.s.c a') ta2 ∧ (∀ k, mF ta2 k → It1 k) ∧ MRow w.heap.size W v ms ds It1 ∧ (∀ k, enF B mb qv bv nd S Fc1 k → F k ∨ w.heap.size ≤ k) ∧ (∀ k, It1 k → It k ∨ w.heap.size ≤ k) ∧ Fb F w W
def GoE (bs' : List At) (v : Value) (ms : List Mg) (W : World) : Prop :=
 ∃ ds qv' bv' Fc1 It1, EnI W B mb pm pc qv' bv' nd { S with L := bs' ++ qs, tk := S.tk + 2 } bs' qs Fc1 It1 ∧ MRow w.heap.size W v ms ds It1 ∧ (∀ k, enF B mb qv' bv' nd { S with L := bs' ++ qs, tk := S.tk + 2 } Fc1 k → F k ∨ w.heap.size ≤ k) ∧ (∀ k, It1 k → It k ∨ w.heap.size ≤ k) ∧ Fb F w W
end
section
variable {w : World} {B mb : Nat} {pm pc : Option Addr} {qv bv : Value} {nd : Int → Nat} {S : Rs} {xs : List At} {a : At} {ys qs : List At} {F It Fc : Nat → Prop} {pa : Option Addr} {pcp : Nat}
theorem MRow.below {lo : Nat} {W W' : World} {v : Value} {ms : List Mg} {ds : List (Option Addr × Nat × Nat)} {I : Nat → Prop} (h : MRow lo W v ms ds I) (hI : ∀ k, I k → k < W.heap.size) (hb : Below W.heap.size W W') : MRow lo W' v ms ds I :=
 h.same (fun b e => by
  obtain ⟨_, cur, hc⟩ := own_kind h.own e
  exact hb.block b (lt_of_block hc)) fun k hk => ⟨hb.block k (hI k hk), hk⟩
theorem GoF.below {q q2 : Option Addr} {a' : At} {T : List Int} {a2 : Option Addr} {c2 : Nat} {v : Value} {ms : List Mg} {W W' : World} (h : GoF w B mb pm pc qv bv nd S xs a ys qs F It pa pcp q q2 a' T a2 c2 v ms W) (hb : Below W.heap.size W W') : GoF w B mb pm pc qv bv nd S xs a ys qs F It pa pcp q q2 a' T a2 c2 v ms W' := by
 obtain ⟨ta2, ds, Fc1, It1, h1, h2, h3, h4, h5, h6, h7, h8, h9, h10, h11, h12⟩ := h
 exact ⟨ta2, ds, Fc1, It1, h1.below hb, block_bel h2 hb, h3.below hb, h4, h5.below hb, h6, h7.below hb, h8, h9.below h1.oldI hb, h10, h11, h12.below hb⟩
theorem GoD.below {q2 : Option Addr} {a' : At} {v : Value} {ms : List Mg} {t : Nat} {W W' : World} (h : GoD w B mb pm pc qv bv nd S xs a ys qs F It pa pcp q2 a' v ms t W) (hb : Below W.heap.size W W') : GoD w B mb pm pc qv bv nd S xs a ys qs F It pa pcp q2 a' v ms t W' := by
 obtain ⟨ta2, ds, Fc1, It1, h1, h2, h3, h4, h5, h6, h7, h8⟩ := h
 exact ⟨ta2, ds, Fc1, It1, h1.below hb, block_bel h2 hb, h3.below hb, h4, h5.below h1.oldI hb, h6, h7, h8.below hb⟩
theorem go_have (h : EnI w B mb pm pc qv bv nd S (xs ++ a :: ys) qs Fc It) {q : Option Addr} {ta : Option Addr} (hv : w.heap[nd a.id]? = some (.cells (AtV a pa pcp q) 106 (0, 0))) (hr : Reads .i64 w pa a.ts.length pcp a.ts) (hp : ∀ k, mF pa k → It k) (hs : StT w q S.s.c (stA S.s.c a) ta) (hta : ∀ k, mF ta k → It k) :
  GoF w B mb pm pc qv bv nd S xs a ys qs (enF B mb qv bv nd S Fc) It pa pcp q q a [] none 0 (.slice none 0 0) [] w :=
 ⟨ta, [], Fc, It, h.monoI (fun _ hk => hk) h.itI (Nat.le_succ _), hv, hr, hp, hs, hta, Reads.nil _ _, (fun p hp => by cases hp), MRow.nil _ _ _, fun k hk => .inl hk, fun k hk => .inl hk, Fb.refl _ _⟩
theorem go_begin (h : EnI w B mb pm pc qv bv nd S (xs ++ a :: ys) qs Fc It) {sp q : Option Addr} (hv : w.heap[nd a.id]? = some (.cells (AtV a pa pcp sp) 106 (0, 0))) (hr : Reads .i64 w pa a.ts.length pcp a.ts) (hp : ∀ k, mF pa k → It k) (hvo : ∀ t ∈ a.ts, 0 ≤ t ∧ t < S.s.c.vocab) {W : World} (hT : ThrE w B mb pm pc qv bv nd S (xs ++ a :: ys) qs Fc It (stA S.s.c a) q W) :
  GoF w B mb pm pc qv bv nd S xs a ys qs (enF B mb qv bv nd S Fc) It pa pcp q q a [] none 0 (.slice none 0 0) [] (W.setCell ⟨nd a.id, 5, none⟩ (.pointer q)) ∧ W.heap[nd a.id]? = some (.cells (AtV a pa pcp sp) 106 (0, 0)) := by
 obtain ⟨ta, Fc', h1, h2, h3, h4, h5⟩ := hT
 have haL : a ∈ S.L := h.aL
 have hvW : W.heap[nd a.id]? = some (.cells (AtV a pa pcp sp) 106 (0, 0)) := h5.one hv (h.cn haL)
 have hb : Fb (at1 (nd a.id)) W (W.setCell ⟨nd a.id, 5, none⟩ (.pointer q)) := Fb.set (by exact rfl) _
 have hv1 : (W.setCell ⟨nd a.id, 5, none⟩ (.pointer q)).heap[nd a.id]? = some (.cells (AtV a pa pcp q) 106 (0, 0)) := row_set (k := 5) (u := .pointer q) hvW
 have hen : ∀ k, at1 (nd a.id) k → enF B mb qv bv nd { S with tk := S.tk + 1 } Fc' k ∨ W.heap.size ≤ k := fun k hk => .inl (.inr (.inr (.inr (.inr (.inl ⟨a, haL, hk⟩)))))
 have hk := h3.kpl hb hen
 have hII := h3.its hb hen
 have hIntT : ∀ k, mF ta k → IntB W k ∧ ¬ Fc' k := fun k hk' => by
  refine ⟨h1.int hk', fun hf => ?_⟩
  rcases h2 k hk' with h' | h'
  ·exact (h3.itI k h').2 hf
  ·have := h.ca.old k (h4 k hf)
   omega
 have hsame : ∀ k, IntB W k → (W.setCell ⟨nd a.id, 5, none⟩ (.pointer q)).heap[k]? = W.heap[k]? := fun k hk' => hb.block k hk'.lt fun e => by
  obtain ⟨cur, fz, hc⟩ := hk'
  rw [show k = nd a.id from e, hvW] at hc
  simp at hc
 have hs1 : StT (W.setCell ⟨nd a.id, 5, none⟩ (.pointer q)) q S.s.c (stA S.s.c a) ta := h1.keep hk fun k hk' => hsame k (h1.int hk')
 have hr1 : Reads .i64 (W.setCell ⟨nd a.id, 5, none⟩ (.pointer q)) pa a.ts.length pcp a.ts := hr.same fun x hx => (hII x (hp x hx)).trans (h5.block x (h.oldI x (hp x hx)) (h.itI x (hp x hx)).2)
 have hat : AtIn (W.setCell ⟨nd a.id, 5, none⟩ (.pointer q)) S.s.c (nd a.id) a (fun k => It k ∨ mF ta k) := ⟨pa, pcp, q, hv1, hr1, fun k hk' => .inl (hp k hk'), .inr ⟨ta, hs1, fun k hk' => .inr hk'⟩, hvo⟩
 have h6 := h3.setA (It' := fun k => It k ∨ mF ta k) hb (a' := a) rfl rfl hat (h.ok.ok a haL) (fun k hk' => .inl hk') (fun k hk' => by
  rcases hk' with h' | h'
  ·exact ⟨(h3.itI k h').1.same (hII k h'), (h3.itI k h').2⟩
  ·exact ⟨(hIntT k h').1.same (hsame k (hIntT k h').1), (hIntT k h').2⟩)
 have hSe : ({ { S with tk := S.tk + 1 } with L := (xs ++ a :: ys) ++ qs } : Rs) = { S with tk := S.tk + 1 } := by rw [← h.L]
 rw [hSe] at h6
 refine ⟨⟨ta, [], Fc', _, h6, hv1, hr1, fun k hk' => .inl (hp k hk'), hs1, fun k hk' => .inr hk', Reads.nil _ _, (fun p hp => by cases hp), MRow.nil _ _ _, fun k hk' => .inl ?_, fun k hk' => ?_, ?_⟩, hvW⟩
 ·rcases hk' with h' | h' | h' | h' | h' | h'
  ·exact .inl h'
  ·exact .inr (.inl h')
  ·exact .inr (.inr (.inl h'))
  ·exact .inr (.inr (.inr (.inl h')))
  ·exact .inr (.inr (.inr (.inr (.inl h'))))
  ·exact .inr (.inr (.inr (.inr (.inr (h4 k h')))))
 ·rcases hk' with h' | h'
  ·exact .inl h'
  ·exact h2 k h'
 ·exact (h5.mono fun k hk' => show enF B mb qv bv nd S Fc k from .inr (.inr (.inr (.inr (.inr hk'))))).trans hb fun k hk' => .inl (.inr (.inr (.inr (.inr (.inl ⟨a, haL, hk'⟩)))))
theorem GoF.from {q : Option Addr} {W : World} (h : GoF w B mb pm pc qv bv nd S xs a ys qs F It pa pcp q q a [] none 0 (.slice none 0 0) [] W) {ch : Nat} (hch : ch ≤ 16) :
  Calls Tryz.prog 56 #[.pointer pm, .agg (JbV (jbA a pa pcp)), .pointer q, .int .i64 ((a.text S.s.c).take a.k).length, .int .i64 ch] W fun e w' => ∃ a2 c2 q2 b, e = .returned (.tuple #[.slice a2 (nxA S.s.c a ch).length c2, .pointer q2, .bool b]) ∧
   GoF w B mb pm pc qv bv nd S xs a ys qs F It pa pcp q q2 { a with k := a.k + (nxA S.s.c a ch).length } (nxA S.s.c a ch) a2 c2 (.slice none 0 0) [] w' ∧ (b = true → refL S.s.c a.seed (stA S.s.c a ++ nxA S.s.c a ch) (a.most - ((a.text S.s.c).take a.k).length - (nxA S.s.c a ch).length) = []) ∧ (b = false → (nxA S.s.c a ch).length = ch) := by
 obtain ⟨ta, ds, Fc1, It1, h1, h2, h3, h4, h5, h6, h7, h8, h9, h10, h11, h12⟩ := h
 have haL : a ∈ S.L := h1.aL
 obtain ⟨_, _, hmo, hkm, hlk⟩ := h1.ok.ok a haL
 have hkk : ((a.text S.s.c).take a.k).length ≤ a.k := by rw [List.length_take]; omega
 refine (efrom_any pm q S.s.c (jbA a pa pcp) (stA S.s.c a) ta ((a.text S.s.c).take a.k).length ch (a.most - ((a.text S.s.c).take a.k).length) W h1.md h1.may h3 h5 (by show (a.most : Int) = _; omega) (by show (a.most : Int) ≤ 256; omega) (by omega)).mono ?_
 rintro e w' ⟨a2, c2, q2, b, ta2, rfl, k1, k2, k3, k4, k5, k6, hb⟩
 have hI2 : ∀ k, (It1 k ∨ mF ta2 k ∨ mF a2 k) → IntB w' k ∧ ¬ Fc1 k := fun k hk => by
  have hnew : W.heap.size ≤ k → ¬ Fc1 k := fun hl hf => by have := h1.ca.old k hf; omega
  rcases hk with h' | h' | ⟨p, e, rfl⟩
  ·exact ⟨(h1.itI k h').1.same (hb.block k (h1.oldI k h')), (h1.itI k h').2⟩
  ·refine ⟨k3.int h', ?_⟩
   rcases k4 k h' with h'' | h''
   ·exact (h1.itI k (h6 k h'')).2
   ·exact hnew h''
  ·exact ⟨(k2 p e).2, hnew (k2 p e).1⟩
 have h1' := (h1.below hb).monoI (It' := fun k => It1 k ∨ mF ta2 k ∨ mF a2 k) (fun k hk => .inl hk) hI2 (Nat.le_refl _)
 refine ⟨a2, c2, q2, b, rfl, ⟨ta2, [], Fc1, _, h1', block_bel h2 hb, h3.below hb, fun k hk => .inl (h4 k hk), by rw [← stA_next]; exact k3, fun k hk => .inr (.inl hk), k1, fun p hp => ⟨Nat.le_trans h12.size (k2 p hp).1, .inr (.inr ⟨p, hp, rfl⟩)⟩, MRow.nil _ _ _, h10, fun k hk => ?_, h12.below hb⟩, k5, k6⟩
 rcases hk with h' | h' | ⟨p, e, rfl⟩
 ·exact h11 k h'
 ·rcases k4 k h' with h'' | h''
  ·exact h11 k (h6 k h'')
  ·exact .inr (Nat.le_trans h12.size h'')
 ·exact .inr (Nat.le_trans h12.size (k2 p e).1)
theorem GoF.store {q q2 : Option Addr} {n : Nat} {T : List Int} {a2 : Option Addr} {c2 : Nat} {v : Value} {ms : List Mg} {W : World} (h : GoF w B mb pm pc qv bv nd S xs a ys qs F It pa pcp q q2 { a with k := a.k + n } T a2 c2 v ms W) (hn : a.k + n ≤ a.most ∧ a.ts.length + (a.k + n) < 256) :
  GoD w B mb pm pc qv bv nd S xs a ys qs F It pa pcp q2 { a with k := a.k + n } v ms (S.tk + 1) ((W.setCell ⟨nd a.id, 5, none⟩ (.pointer q2)).setCell ⟨nd a.id, 4, none⟩ (.int .i64 (a.k + n : Nat))) := by
 obtain ⟨ta, ds, Fc1, It1, h1, h2, h3, h4, h5, h6, h7, h8, h9, h10, h11, h12⟩ := h
 have haL : a ∈ S.L := h1.aL
 obtain ⟨o1, o2, o3, o4, o5⟩ := h1.ok.ok a haL
 obtain ⟨W', hW'⟩ : ∃ W', W' = (W.setCell ⟨nd a.id, 5, none⟩ (.pointer q2)).setCell ⟨nd a.id, 4, none⟩ (.int .i64 (a.k + n : Nat)) := ⟨_, rfl⟩
 rw [← hW']
 have hb : Fb (at1 (nd a.id)) W W' := by
  rw [hW']
  exact (Fb.set (F := at1 (nd a.id)) (by exact rfl) _).trans (Fb.set (F := at1 (nd a.id)) (by exact rfl) _) fun k hk => .inl hk
 have hv1 : W'.heap[nd a.id]? = some (.cells (AtV { a with k := a.k + n } pa pcp q2) 106 (0, 0)) := by
  rw [hW']
  exact row_set (k := 4) (u := .int .i64 (a.k + n : Nat)) (row_set (k := 5) (u := .pointer q2) h2)
 have hen : ∀ k, at1 (nd a.id) k → enF B mb qv bv nd { S with tk := S.tk + 1 } Fc1 k ∨ W.heap.size ≤ k := fun k hk => .inl (.inr (.inr (.inr (.inr (.inl ⟨a, haL, hk⟩)))))
 have hk := h1.kpl hb hen
 have hII := h1.its hb hen
 obtain ⟨pa', pcp', sp', hv', _, _, _, hvo⟩ := h1.att a haL
 have hs1 : StT W' q2 S.s.c (stA S.s.c { a with k := a.k + n }) ta := h5.keep hk fun k hk' => hII k (h6 k hk')
 have hr1 : Reads .i64 W' pa a.ts.length pcp a.ts := h3.same fun x hx => hII x (h4 x hx)
 have hat : AtIn W' S.s.c (nd a.id) { a with k := a.k + n } It1 := ⟨pa, pcp, q2, hv1, hr1, h4, .inr ⟨ta, hs1, h6⟩, hvo⟩
 have h6' := h1.setA (It' := It1) hb (a' := { a with k := a.k + n }) rfl rfl hat ⟨o1, o2, o3, hn.1, hn.2⟩ (fun k hk' => hk') (fun k hk' => ⟨(h1.itI k hk').1.same (hII k hk'), (h1.itI k hk').2⟩)
 refine ⟨ta, ds, Fc1, It1, h6', hv1, hs1, h6, h9.same (fun b e => ?_) (fun k hk' => ⟨hII k hk', hk'⟩), h10, h11, h12.trans hb fun k hk' => ?_⟩
 ·obtain ⟨_, cur, hc⟩ := own_kind h9.own e
  exact hb.block b (lt_of_block hc) fun e2 => by
   rw [show b = nd a.id from e2, h2] at hc
   simp at hc
 ·exact h10 k (.inr (.inr (.inr (.inr (.inl ⟨a, haL, hk'⟩)))))
theorem GoF.app {q q2 : Option Addr} {a' : At} {T : List Int} {a2 : Option Addr} {c2 : Nat} {W W1 W2 : World} {v2 : Value} (h : GoF w B mb pm pc qv bv nd S xs a ys qs F It pa pcp q q2 a' T a2 c2 (.slice none 0 0) [] W) (hb : Below W.heap.size W W1) {m : Mg} (hm : m.li = T) (ho : W2.ownsRow w.heap.size 55 12 v2 1 (flatM [m] [(a2, T.length, c2)])) (hg : W1.grownBy W2 none) : GoF w B mb pm pc qv bv nd S xs a ys qs F It pa pcp q q2 a' T a2 c2 v2 [m] W2 := by
 have hb2 : Below W1.heap.size W1 W2 := below_grown hg
 have hbb := hb.trans (hb2.mono hb.size)
 obtain ⟨ta, ds, Fc1, It1, h1, h2, h3, h4, h5, h6, h7, h8, h9, h10, h11, h12⟩ := h.below hbb
 refine ⟨ta, [(a2, T.length, c2)], Fc1, It1, h1, h2, h3, h4, h5, h6, h7, h8, ⟨ho, rfl, fun i hi hd => ?_⟩, h10, h11, h12⟩
 obtain rfl : i = 0 := by simpa using hi
 exact ⟨by simp only [List.getElem_cons_zero, hm]; exact h7, fun p hp => h8 p hp⟩
theorem GoD.app {q2 : Option Addr} {a' : At} {v : Value} {ms : List Mg} {t : Nat} {W W1 : World} (h : GoD w B mb pm pc qv bv nd S xs a ys qs F It pa pcp q2 a' v ms t W) (hb : Below W.heap.size W W1) {m : Mg} (hm : m.li = []) (hl : ms.length ≤ 5) (b1 : Nat) (hc : W1.heap[b1]? = some (.cells (MgC m none 0 0) 55 (0, 0))) (ty : TypeId) :
  ∃ v2 W2, (Builtin.append_ #[49, 49] ty #[v, .slice (some ⟨b1, 0, none⟩) 1 1]).run Tryz.prog W1 = .ok v2 W2 ∧ GoD w B mb pm pc qv bv nd S xs a ys qs F It pa pcp q2 a' v2 (ms ++ [m]) t W2 := by
 obtain ⟨ta, ds, Fc1, It1, h1, h2, h3, h4, h5, h6, h7, h8⟩ := h.below hb
 obtain ⟨v2, W2, e1, ho, hg⟩ := run_mapp W1 w.heap.size v ms ds h5.own h5.len (some ⟨b1, 0, none⟩) 1 1 [m] [(none, 0, 0)] rfl rfl (fun e => by cases e) (fun ad e j u hu => by
  cases e
  have hj : j < 12 := by
   have := (List.getElem?_eq_some_iff.1 hu).1
   exact this
  rw [Addr.add_lit, Nat.zero_add, cell_of_row _ _ _ _ _ _ hc]
  simpa [flatM] using hu) (by omega) h8.size ty
 refine ⟨v2, W2, e1, ?_⟩
 have hsame : ∀ k, It1 k → W2.heap[k]? = W1.heap[k]? := fun k hk => hg.block k (h1.oldI k hk) fun e => by
  obtain ⟨_, cur, hc'⟩ := own_kind h5.own e.symm
  obtain ⟨⟨cur', fz, hc2⟩, _⟩ := h1.itI k hk
  rw [hc'] at hc2
  simp at hc2
 have hF2 : ∀ k, enF B mb qv bv nd { S with L := (xs ++ a' :: ys) ++ qs, tk := t } Fc1 k → W2.heap[k]? = W1.heap[k]? := fun k hk => hg.block k (h1.old k hk) fun e => by
  obtain ⟨_, cur, hc'⟩ := own_kind h5.own e.symm
  exact h1.msgF hc' hk
 have hk : KpL W1 W2 := fun k cur t' fz h1' h2' => by
  rw [hg.block k (lt_of_block h1') fun e => ?_]
  ·exact h1'
  ·obtain ⟨_, cur', hc'⟩ := own_kind h5.own e.symm
   rw [h1'] at hc'
   simp at hc'
   obtain ⟨_, rfl, _⟩ := hc'
   revert h2'
   decide
 have hbl : W2.heap[nd a.id]? = W1.heap[nd a.id]? := hg.block _ (lt_of_block h2) fun e => by
  obtain ⟨_, cur, hc'⟩ := own_kind h5.own e.symm
  rw [h2] at hc'
  simp at hc'
 refine ⟨ta, ds ++ [(none, 0, 0)], Fc1, It1, h1.keep hg.size hF2 hsame hk, hbl.trans h2, h3.keep hk fun k hk' => hsame k (h4 k hk'), h4, h5.app ho hg rfl (fun k hk' => (h1.itI k hk').1) (fun i hi hd => ?_), h6, h7, h8.trans (G := fun k => v.ownBlock = some k) ⟨hg.os, hg.tape, hg.output, hg.size, fun k hk hn => hg.block k hk fun e => hn e.symm⟩ fun k hk' => .inr (own_kind h5.own hk').1⟩
 obtain rfl : i = 0 := by simpa using hi
 exact ⟨by simp only [List.getElem_cons_zero, hm]; exact Reads.nil _ _, (fun p hp => by cases hp)⟩
end
end Go.Proofs.YtjgggialnegddaaGreat
namespace Go.Proofs.YtjgggialnegddaaGreat
open Go.RowKit Go.Maps
section
variable {w : World} {B mb : Nat} {pm pc : Option Addr} {qv bv : Value} {nd : Int → Nat} {S : Rs} {xs : List At} {a : At} {ys qs : List At} {F It Fc : Nat → Prop} {pa : Option Addr} {pcp : Nat}
theorem stA_tk {c : Cf} {a : At} (hc : mayB c = true) (hv : ∀ t ∈ a.ts, 0 ≤ t ∧ t < c.vocab) : Tk (stA c a) := fun x hx => by
 have hvoc : 0 < c.vocab ∧ c.vocab ≤ 9223372036854775807 := by
  have := hc
  unfold mayB at this
  simp only [Bool.and_eq_true, btw_iff] at this
  omega
 unfold stA at hx
 rcases List.mem_append.1 hx with h | h
 ·rcases List.mem_cons.1 h with rfl | h
  ·omega
  ·have := hv x h; omega
 ·have h2 := List.mem_of_mem_take h
  obtain ⟨i, hi, e⟩ := List.getElem_of_mem h2
  have h3 : 0 ≤ (a.text c)[i]?.getD 0 ∧ (a.text c)[i]?.getD 0 < c.vocab := refL_in hc a.seed a.most (0 :: a.ts) i hi
  rw [List.getElem?_eq_getElem hi, e] at h3
  simp at h3
  omega
theorem GoD.put {q2 : Option Addr} {a' : At} {v : Value} {ms : List Mg} {t : Nat} {W : World} (h : GoD w B mb pm pc qv bv nd S xs a ys qs F It pa pcp q2 a' v ms t W) (hid : a'.id = a.id) (ht : t ≤ 99990) :
  Calls Tryz.prog 59 #[.pointer pc, .pointer q2] W fun e w' => ∃ n : Int, e = .returned (.int .i64 n) ∧ GoD w B mb pm pc qv bv nd S xs a ys qs F It pa pcp q2 a' v ms (t + 1) w' := by
 obtain ⟨ta, ds, Fc1, It1, h1, h2, h3, h4, h5, h6, h7, h8⟩ := h
 have haL : a' ∈ (xs ++ a' :: ys) ++ qs := by simp
 obtain ⟨_, _, _, _, _, _, _, hvo⟩ := h1.att a' haL
 refine (ca_put q2 (stA S.s.c a') ta W h1.ca h1.may h3 (stA_tk h1.may hvo) (fun k hk => (h1.itI k (h4 k hk)).2) ht).mono ?_
 rintro e w' ⟨n, F', It', rfl, g1, g2, g3, g4, g5⟩
 have hi1 := h1.itIn g5 g2
 have hca : CaAt w' pc S.s (t + 1) F' (fun k => It1 k ∨ It' k) := g1.mono (fun k hk => .inr hk) (Nat.le_refl _)
 have hr := h1.recache g5 hca g2 (fun k hk => .inl hk) (fun k hk => hk.elim (hi1 k) (g4 k))
 have hII : ∀ k, It1 k → w'.heap[k]? = W.heap[k]? := fun k hk => g5.block k (h1.oldI k hk) (h1.itI k hk).2
 have hkl : KpL W w' := h1.kpl g5 fun k hk => .inl (.inr (.inr (.inr (.inr (.inr hk)))))
 have hcn : ¬ Fc1 (nd a.id) := by rw [← hid]; exact h1.cn haL
 refine ⟨n, rfl, ta, ds, F', _, hr, g5.one h2 hcn, h3.keep hkl fun k hk => hII k (h4 k hk), fun k hk => .inl (h4 k hk), h5.same (fun b e => ?_) (fun k hk => ⟨hII k hk, .inl hk⟩), fun k hk => ?_, fun k hk => ?_, h8.trans g5 fun k hk => h6 k (.inr (.inr (.inr (.inr (.inr hk)))))⟩
 ·obtain ⟨_, cur, hc⟩ := own_kind h5.own e
  exact g5.block b (lt_of_block hc) fun hf => h1.msgF hc (.inr (.inr (.inr (.inr (.inr hf)))))
 ·rcases hk with h' | h' | h' | h' | h' | h'
  ·exact h6 k (.inl h')
  ·exact h6 k (.inr (.inl h'))
  ·exact h6 k (.inr (.inr (.inl h')))
  ·exact h6 k (.inr (.inr (.inr (.inl h'))))
  ·exact h6 k (.inr (.inr (.inr (.inr (.inl h')))))
  ·rcases g2 k h' with h'' | h''
   ·exact h6 k (.inr (.inr (.inr (.inr (.inr h'')))))
   ·exact .inr (Nat.le_trans h8.size h'')
 ·rcases hk with h' | h'
  ·exact h7 k h'
  ·rcases g3 k h' with h'' | h'' | h''
   ·exact h7 k h''
   ·exact h7 k (h4 k h'')
   ·exact .inr (Nat.le_trans h8.size h'')
theorem enF_sub {S S' : Rs} {qv' bv' : Value} {Fc : Nat → Prop} (hq : qv'.ownBlock = qv.ownBlock) (hb : bv'.ownBlock = bv.ownBlock) (hL : ∀ x ∈ S'.L, ∃ y ∈ S.L, x.id = y.id) {k : Nat} (hk : enF B mb qv' bv' nd S' Fc k) : enF B mb qv bv nd S Fc k := by
 rcases hk with h' | h' | h' | h' | ⟨x, hx, h'⟩ | h'
 ·exact .inl h'
 ·exact .inr (.inl h')
 ·exact .inr (.inr (.inl (by rw [← hq]; exact h')))
 ·exact .inr (.inr (.inr (.inl (by rw [← hb]; exact h'))))
 ·obtain ⟨y, hy, e⟩ := hL x hx
  exact .inr (.inr (.inr (.inr (.inl ⟨y, hy, by rw [h', e]⟩))))
 ·exact .inr (.inr (.inr (.inr (.inr h'))))
theorem GoD.letgo {q2 : Option Addr} {a' : At} {v : Value} {ms : List Mg} {W : World} (h : GoD w B mb pm pc qv bv nd S xs a ys qs F It pa pcp q2 a' v ms (S.tk + 2) W) (hid : a'.id = a.id) (hS : S.L = (xs ++ a :: ys) ++ qs) :
  Calls Tryz.prog 43 #[.pointer (some ⟨B, 0, none⟩), .int .u64 a.id] W fun e w' => e = .returned (.tuple #[]) ∧ GoE w B mb pm pc nd S qs F It (xs ++ ys) v ms w' := by
 obtain ⟨ta, ds, Fc1, It1, h1, h2, h3, h4, h5, h6, h7, h8⟩ := h
 have haL : a' ∈ (xs ++ a' :: ys) ++ qs := by simp
 have hU := (h1.ok.ok a' haL).1
 rw [hid] at hU
 obtain ⟨d1, d2⟩ := dropL_mid (a := a) (a' := a') rfl h1.ok.one hid
 refine (eletgo_any h1 a.id hU).mono ?_
 rintro e w' ⟨rfl, qv', bv', g1, g2, g3, g4⟩
 have hLe : dropL ((xs ++ a' :: ys) ++ qs) a.id = (xs ++ ys) ++ qs := by rw [dropL_app, d1, d2]
 have g1' : EnI w' B mb pm pc qv' bv' nd { S with L := (xs ++ ys) ++ qs, tk := S.tk + 2 } (xs ++ ys) qs Fc1 It1 := by
  have := g1
  simp only [hLe, d1, d2] at this
  exact this
 have hII := h1.its g4 fun k hk => .inl (reF_en hk)
 refine ⟨rfl, ds, qv', bv', Fc1, It1, g1', h5.same (fun b e => ?_) (fun k hk => ⟨hII k hk, hk⟩), fun k hk => ?_, h7, h8.trans g4 fun k hk => h6 k (reF_en hk)⟩
 ·obtain ⟨_, cur, hc⟩ := own_kind h5.own e
  exact g4.block b (lt_of_block hc) fun hf => h1.msgF hc (reF_en hf)
 ·refine h6 k (enF_sub g2 g3 (fun x hx => ⟨x, ?_, rfl⟩) hk)
  have hx' : x ∈ (xs ++ ys) ++ qs := hx
  rw [hS]
  simp only [List.mem_append, List.mem_cons] at hx' ⊢
  rcases hx' with (h' | h') | h'
  ·exact .inl (.inl h')
  ·exact .inl (.inr (.inr h'))
  ·exact .inr h'
theorem GoD.stay {q2 : Option Addr} {a' : At} {v : Value} {ms : List Mg} {W : World} (h : GoD w B mb pm pc qv bv nd S xs a ys qs F It pa pcp q2 a' v ms (S.tk + 1) W) (hid : a'.id = a.id) (hS : S.L = (xs ++ a :: ys) ++ qs) : GoE w B mb pm pc nd S qs F It (xs ++ a' :: ys) v ms W := by
 obtain ⟨ta, ds, Fc1, It1, h1, h2, h3, h4, h5, h6, h7, h8⟩ := h
 refine ⟨ds, qv, bv, Fc1, It1, h1.monoI (fun _ hk => hk) h1.itI (t := S.tk + 2) (by show S.tk + 1 ≤ S.tk + 2; omega), h5, fun k hk => h6 k (enF_sub rfl rfl (fun x hx => ?_) hk), h7, h8⟩
 have hx' : x ∈ (xs ++ a' :: ys) ++ qs := hx
 rw [hS]
 simp only [List.mem_append, List.mem_cons] at hx'
 rcases hx' with (h' | rfl | h') | h'
 ·exact ⟨x, by simp [h'], rfl⟩
 ·exact ⟨a, by simp, hid⟩
 ·exact ⟨x, by simp [h'], rfl⟩
 ·exact ⟨x, by simp [h'], rfl⟩
end
end Go.Proofs.YtjgggialnegddaaGreat
