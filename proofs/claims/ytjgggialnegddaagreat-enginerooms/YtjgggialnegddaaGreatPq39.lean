/-
  The texts EnArr, EnArr2, EnArr3 of this proof.
-/
import Derived.Test.YtjgggialnegddaaGreatPq36
import Derived.Test.YtjgggialnegddaaGreatPq34
import Derived.Test.YtjgggialnegddaaGreatPq23
import Derived.Deep.QuietTactic
import Derived.BigQuiet
set_option linter.unusedVariables false
set_option maxRecDepth 1000000
namespace Go.Proofs.YtjgggialnegddaaGreat
open Go.RowKit Go.Maps
theorem ebtw_any (n m : Int) (w : World) : Calls Tryz.prog 28 #[.int .i64 n, .int .i64 m] w fun e w' => e = .returned (.bool (btw n 1 m)) ∧ w = w' := by
 by_cases h1 : 1 ≤ n
 ·have d1 : decide (1 ≤ n) = true := decide_eq_true h1
  have HE : Hid (btw n 1 m = decide (n ≤ m)) := by unfold Hid btw; simp [h1]
  go_enter Tryz.func28, Tryz.ntmps28
  go_wp2
  go_ret
  exact ⟨by rw [HE.out]; first | done | rfl, rfl⟩
 ·have d1 : decide (1 ≤ n) = false := decide_eq_false h1
  have HE : Hid (btw n 1 m = false) := by unfold Hid btw; simp [h1]
  go_enter Tryz.func28, Tryz.ntmps28
  go_wp2
  go_ret
  exact ⟨by rw [HE.out]; first | done | rfl, rfl⟩
theorem pclone_any (a : Option Addr) (n cap : Nat) (xs : List Int) (w : World) (ha : Reads .i64 w a n cap xs) (hn : n ≤ 1000) :
  Calls Tryz.prog 64 #[.slice a n cap] w fun e w' => ∃ a' cap', e = .returned (.slice a' n cap') ∧ Reads .i64 w' a' n cap' xs ∧ (∀ p, a' = some p → w.heap.size ≤ p.block ∧ IntB w' p.block) ∧ Below w.heap.size w w' := by
 obtain ⟨i0, hi, hz0, hz1, hz2⟩ := info_parts Tryz.info3
 cases a with
 | none =>
  obtain ⟨rfl, rfl⟩ := ha.bare rfl
  obtain rfl : xs = [] := List.eq_nil_of_length_eq_zero ha.size
  have heq : ∀ W : World, (binOp .eql 41 (.slice none 0 0) (.slice none 0 0)).run Tryz.prog W = .ok (.bool true) W := fun W => Lib.run_eql_slice_nil W _ _ none 0 0 0 0 Tryz.underlying41
  clear ha
  go_enter Tryz.func64, Tryz.ntmps64
  go_wp2
  go_ret
  exact ⟨_, _, rfl, Reads.nil _ _, (fun p hp => by cases hp), Below.refl _ _⟩
 | some ad =>
  have heq : ∀ W : World, (binOp .eql 41 (.slice (some ad) n cap) (.slice none 0 0)).run Tryz.prog W = .ok (.bool false) W := fun W => Lib.run_eql_slice_nil W _ _ (some ad) n cap 0 0 Tryz.underlying41
  have HA := hid ha
  have HB : Hid (Below w.heap.size w (w.alloc (.cells #[] 3))) := (Below.refl _ _).alloc (Nat.le_refl _) _
  have HO : Hid ((w.alloc (.cells #[] 3)).ownsRow w.heap.size 3 1 (.slice (some ⟨w.heap.size, 0, none⟩) 0 0) 0 (([] : List Int).map (Value.int .i64))) :=
   World.ownsRow_lit (base := w.heap.size) (e := 3) (size := 1) w #[] 0 (Nat.le_refl _) (by unfold maxLen; omega) (by simp)
  clear ha
  go_enter Tryz.func64, Tryz.ntmps64
  go_wp2_with (at_builtin; refine append_any _ rfl (.tmp 5) (.tmp 6) 41 rfl w.heap.size 3 i0 (.int .i64 0) 8 Tryz.underlying41 hi hz0 hz1 hz2 rfl .i64 _ 0 [] rfl HO.out (some ad) n cap xs rfl (HA.out.below HB.out) (by omega) (by omega) HB.out.size ?_; intro v' w3 hO3 hb3)
  rw [Nat.zero_add, List.nil_append] at hO3
  obtain ⟨a3, c3, rfl, hr3⟩ := Reads.own (k := .i64) hO3
  have HL : Hid (∀ p, a3 = some p → w.heap.size ≤ p.block ∧ IntB w3 p.block) := fun p hp => by
   refine ⟨(World.ownsRow.lt hO3 p.block (by rw [hp]; rfl)).1, ?_⟩
   obtain ⟨cur, hc⟩ := own_type hO3 (o := p.block) (by rw [hp]; rfl)
   exact ⟨cur, _, hc⟩
  have HR3 := hid hr3
  have HB3 := hid (HB.out.trans hb3)
  clear hO3 hb3 HA HB HO hr3
  go_wp2
  go_ret
  exact ⟨_, _, rfl, HR3.out, HL.out, HB3.out⟩
section
variable {w W W' : World} {B mb : Nat} {pm pc : Option Addr} {qv bv : Value} {nd : Int → Nat} {S : Rs} {bs qs : List At} {Fc It : Nat → Prop}
def updN (nd : Int → Nat) (x : Int) (b : Nat) (y : Int) : Nat := if y = x then b else nd y
theorem EnI.more (h : EnI W B mb pm pc qv bv nd S bs qs Fc It) {a : At} {b : Nat} {It' : Nat → Prop} (hb : Fb (reF B mb qv bv) W W') (hno : hasB S.L a.id = false) (hok : isU a.id ∧ isU a.seed ∧ a.most ≤ 256 ∧ a.k ≤ a.most ∧ a.ts.length + a.k < 256) (hrun : a.run = false) (hq : (qs.length : Int) < S.s.q) (hv : AtIn W' S.s.c b a It') (hnew : W.heap.size ≤ b) (hi : ∀ k, It k → It' k) (hI : ∀ k, It' k → IntB W' k ∧ ¬ Fc k)
  {qv' : Value} (var : W'.heap[B]? = some (.cells (RpV pm pc S mb qv' bv) 73 (0, 0))) (map : AmAt W' mb (S.L.length + 1) (fun x => if x = a.id then some b else mapF S.L nd x)) (qrow : UQ W' qv' (qs.map (·.id) ++ [a.id])) (qb : ∀ k, qv'.ownBlock = some k → qv.ownBlock = some k ∨ W.heap.size ≤ k) (hbv : ∀ k, bv.ownBlock = some k → W'.heap[k]? = W.heap[k]?) :
  EnI W' B mb pm pc qv' bv (updN nd a.id b) { S with L := S.L ++ [a] } bs (qs ++ [a]) Fc It' := by
 have hk : KpL W W' := h.kpl hb fun k hk => .inl (reF_en hk)
 have hII := h.its hb fun k hk => .inl (reF_en hk)
 have hc : ∀ k, Fc k → W'.heap[k]? = W.heap[k]? := fun k hk => hb.block k (h.ca.old k hk) fun hg => by
  rcases hg with e | e | e | e
  ·exact h.Bc (e ▸ hk)
  ·exact h.mbc (e ▸ hk)
  ·exact h.cq e hk
  ·exact h.cb e hk
 have hnid : ∀ x ∈ S.L, x.id ≠ a.id := fun x hx e => by
  have : hasB S.L a.id = true := hasB_iff.2 (List.mem_map.2 ⟨x, hx, e⟩)
  rw [hno] at this
  cases this
 refine ⟨⟨h.ok.set, h.ok.inc, ?_, ?_, fun x hx => ?_⟩, h.bsl, ?_, by rw [h.L, List.append_assoc], h.rb, fun x hx => ?_, var, ?_, (h.ca.keep hb.size hc hII hk).mono hi (Nat.le_refl _), ?_, h.mbc, by rw [List.map_append]; exact qrow, own_blk h.brow hbv, fun k e e2 => ?_, fun x hx => ?_, hI⟩
 ·show ((S.L ++ [a]).map (·.id)).Nodup
  rw [List.map_append, List.nodup_append]
  refine ⟨h.ok.one, by simp, fun x hx y hy => ?_⟩
  obtain ⟨z, hz, rfl⟩ := List.mem_map.1 hx
  simp at hy
  rw [hy]
  exact hnid z hz
 ·have h1 := h.bsl
  have h2 : S.L.length = bs.length + qs.length := by rw [h.L, List.length_append]
  show (((S.L ++ [a]).length : Nat) : Int) ≤ S.s.q + S.s.b
  rw [List.length_append, List.length_singleton, h2]
  omega
 ·have hx' : x ∈ S.L ++ [a] := hx
  rcases List.mem_append.1 hx' with h' | h'
  ·exact h.ok.ok x h'
  ·rw [List.mem_singleton.1 h']; exact hok
 ·show (((qs ++ [a]).length : Nat) : Int) ≤ S.s.q
  rw [List.length_append, List.length_singleton]
  omega
 ·rcases List.mem_append.1 hx with h' | h'
  ·exact h.rq x h'
  ·rw [List.mem_singleton.1 h']; exact hrun
 ·obtain ⟨g, e, hg⟩ := h.md
  exact ⟨g, e, hk _ _ _ _ hg (by decide)⟩
 ·show AmAt W' mb (S.L ++ [a]).length (mapF (S.L ++ [a]) (updN nd a.id b))
  rw [List.length_append, List.length_singleton]
  refine map.ext fun x _ => ?_
  unfold mapF updN
  have hh : hasB (S.L ++ [a]) x = (hasB S.L x || (a.id == x)) := by unfold hasB; rw [List.any_append]; simp
  rw [hh]
  by_cases e : x = a.id
  ·rw [if_pos e, e]; simp
  ·have e3 : (a.id == x) = false := by simpa using Ne.symm e
   rw [if_neg e, e3, Bool.or_false]
   by_cases hx : hasB S.L x = true
   ·rw [if_pos hx, if_pos hx, if_neg e]
   ·rw [if_neg hx, if_neg hx]
 ·rcases qb k e with h' | h'
  ·exact h.qb k h' e2
  ·have := (World.ownsRow.lt h.brow k e2).2; omega
 ·have hx' : x ∈ S.L ++ [a] := hx
  rcases List.mem_append.1 hx' with h' | h'
  ·have hne := hnid x h'
   show AtIn W' S.s.c (updN nd a.id b x.id) x It'
   unfold updN
   rw [if_neg hne]
   have hlt : nd x.id < W.heap.size := h.old _ (.inr (.inr (.inr (.inr (.inl ⟨x, h', rfl⟩)))))
   refine ((h.att x h').keep (hb.block _ hlt fun hg => ?_) hII hk).mono hi
   rcases hg with e | e | e | e
   ·exact h.Bn h' e
   ·exact h.mn h' e
   ·exact h.qn h' e
   ·exact h.bn h' e
  ·rw [List.mem_singleton.1 h']
   show AtIn W' S.s.c (updN nd a.id b a.id) a It'
   unfold updN
   rw [if_pos rfl]
   exact hv
end
end Go.Proofs.YtjgggialnegddaaGreat
namespace Go.Proofs.YtjgggialnegddaaGreat
open Go.RowKit Go.Maps
section
variable {w W W' : World} {B mb : Nat} {pm pc : Option Addr} {qv bv : Value} {nd : Int → Nat} {S : Rs} {bs qs : List At} {Fc It : Nat → Prop}
def ArG (w : World) (B mb : Nat) (pm pc : Option Addr) (S' : Rs) (F It : Nat → Prop) (ms : List Mg) (e : Ending) (w' : World) : Prop :=
 ∃ v ds qv bv nd bs qs Fc1 It1, e = .returned v ∧ EnI w' B mb pm pc qv bv nd S' bs qs Fc1 It1 ∧ MRow w.heap.size w' v ms ds It1 ∧ (∀ k, enF B mb qv bv nd S' Fc1 k → F k ∨ w.heap.size ≤ k) ∧ (∀ k, It1 k → It k ∨ w.heap.size ≤ k) ∧ Fb F w w'
theorem ArG.nil (h : EnI w B mb pm pc qv bv nd S bs qs Fc It) (hb : Below w.heap.size w W) : ArG w B mb pm pc S (enF B mb qv bv nd S Fc) It [] (.returned (.slice none 0 0)) W :=
 ⟨_, [], qv, bv, nd, bs, qs, Fc, It, rfl, h.below hb, MRow.nil _ _ _, fun k hk => .inl hk, fun k hk => .inl hk, Fb.of hb⟩
theorem ArG.one (h : EnI w B mb pm pc qv bv nd S bs qs Fc It) (hb : Below w.heap.size w W) {m : Mg} (hm : m.li = []) : ArG w B mb pm pc S (enF B mb qv bv nd S Fc) It [m] (.returned (.slice (some ⟨W.heap.size, 0, none⟩) 1 1)) (W.alloc (.cells (MgC m none 0 0) 55)) := by
 have hb2 : Below W.heap.size W (W.alloc (.cells (MgC m none 0 0) 55)) := (Below.refl _ _).alloc (Nat.le_refl _) _
 have hbb := hb.trans (hb2.mono hb.size)
 refine ⟨_, [(none, 0, 0)], qv, bv, nd, bs, qs, Fc, It, rfl, h.below hbb, ⟨?_, rfl, fun i hi hd => ?_⟩, fun k hk => .inl hk, fun k hk => .inl hk, Fb.of hbb⟩
 ·have := World.ownsRow_lit (base := w.heap.size) (e := 55) (size := 12) W (MgC m none 0 0) 1 hb.size (by unfold maxLen; omega) (by rfl)
  simpa [flatM] using this
 ·obtain rfl : i = 0 := by simpa using hi
  exact ⟨by simp only [List.getElem_cons_zero, hm]; exact Reads.nil _ _, (fun p hp => by cases hp)⟩
end
end Go.Proofs.YtjgggialnegddaaGreat
namespace Go.Proofs.YtjgggialnegddaaGreat
open Go.RowKit Go.Maps
section
variable {w W W' : World} {B mb : Nat} {pm pc : Option Addr} {qv bv : Value} {nd : Int → Nat} {S : Rs} {bs qs : List At} {Fc It : Nat → Prop}
theorem arrM_6 {m : Ms} (hk : m.kind = 6) : arrM S m = (if m.inc ≠ S.inc then [ovM m.att m.inc m.n 3] else if hasB S.L m.att = true then [] else if startB S m = true then [] else [ovM m.att m.inc m.n 2]) := by
 unfold arrM
 rw [if_neg (by omega), if_pos hk]
theorem arrS_6 {m : Ms} (hk : m.kind = 6) : arrS S m = (if m.inc ≠ S.inc then S else if hasB S.L m.att = true then S else if startB S m = true then { S with L := S.L ++ [newA m] } else S) := by
 unfold arrS
 rw [if_pos hk]
theorem start_end (h : EnI w B mb pm pc qv bv nd S bs qs Fc It) {m : Ms} (hm : MsOk m) (hlp : m.job.ts.length = m.job.lp) (hno : hasB S.L m.att = false) (hst : startB S m = true) {w3 w4 w5 w6 w7 w8 : World} {a3 : Option Addr} {c3 : Nat} (hb3 : Below w.heap.size w w3) (hr3 : Reads .i64 w3 a3 m.job.lp c3 m.job.ts) (hn3 : ∀ p, a3 = some p → w.heap.size ≤ p.block ∧ IntB w3 p.block)
  {jb : Nat} {jc : Array Value} (hjb : w.heap.size ≤ jb) (hjc : w3.heap[jb]? = some (.cells jc 43 (0, 0))) (hf4 : Fb (at1 jb) w3 w4) (h5 : w5 = w4.drew.alloc (.cells #[.int .u64 m.att, .int .u64 m.job.seed, .slice a3 m.job.lp c3, .int .i64 m.job.most, .int .i64 m.n, .pointer none] 106))
  (h6 : AmAt w6 mb (S.L.length + 1) (fun x => if x = m.att then some w4.heap.size else mapF S.L nd x)) (hf6 : Fb (at1 mb) w5 w6) (h7 : Below w6.heap.size w6 w7) {v8 : Value} (h8 : UQ w8 v8 (qs.map (·.id) ++ [m.att])) (hg8 : w7.grownBy w8 qv.ownBlock) (hmv : Moved w7 qv v8) (hq : (qs.length : Int) < S.s.q) :
  ArG w B mb pm pc { S with L := S.L ++ [newA m] } (enF B mb qv bv nd S Fc) It [] (.returned (.slice none 0 0)) (w8.setCell ⟨B, 8, none⟩ v8) ∧ w8.heap[B]? = some (.cells (RpV pm pc S mb qv bv) 73 (0, 0)) := by
 have hst2 := hst
 unfold startB fitB at hst2
 simp only [Bool.and_eq_true, decide_eq_true_eq] at hst2
 obtain ⟨⟨hmay, hnm, hnl⟩, _, _⟩ := hst2
 obtain ⟨y0, y1, y2, y3⟩ := mayJ_iff.1 hmay
 obtain ⟨n0, n1⟩ := hm.n
 have s3 := hb3.size
 have s4 := hf4.size
 have hb5 : Below w4.heap.size w4 w5 := by rw [h5]; exact (Below.refl _ _).drew.alloc (Nat.le_refl _) _
 have s5 := hb5.size
 have s6 := hf6.size
 have s7 := h7.size
 have s8 := hg8.size
 have hc5 : w5.heap[w4.heap.size]? = some (.cells #[.int .u64 m.att, .int .u64 m.job.seed, .slice a3 m.job.lp c3, .int .i64 m.job.most, .int .i64 m.n, .pointer none] 106 (0, 0)) := by rw [h5]; exact heap_alloc_new w4.drew _
 have hlt5 : w4.heap.size < w5.heap.size := lt_of_block hc5
 have hold : ∀ k, k < w.heap.size → k ≠ mb → qv.ownBlock ≠ some k → w8.heap[k]? = w.heap[k]? := fun k hk e1 e2 =>
  (hg8.block k (by omega) fun e => e2 e.symm).trans ((h7.block k (by omega)).trans ((hf6.block k (by omega) fun e => e1 e).trans ((hb5.block k (by omega)).trans ((hf4.block k (by omega) fun e => by have : k = jb := e; omega).trans (hb3.block k hk)))))
 have hmbl := h.map.lt
 have hBl := lt_of_block h.var
 have hvB : w8.heap[B]? = some (.cells (RpV pm pc S mb qv bv) 73 (0, 0)) := (hold B hBl h.Bmb h.Bq).trans h.var
 refine ⟨?_, hvB⟩
 obtain ⟨w9, h9⟩ : ∃ w9, w9 = w8.setCell ⟨B, 8, none⟩ v8 := ⟨_, rfl⟩
 rw [← h9]
 have hf9 : Fb (at1 B) w8 w9 := by rw [h9]; exact Fb.set (by exact rfl) _
 have hF : Fb (reF B mb qv bv) w w9 := by
  refine Fb.trans (G := at1 B) ?_ hf9 fun k hk => .inl (.inl hk)
  refine Fb.trans (G := fun k => qv.ownBlock = some k) ?_ ⟨hg8.os, hg8.tape, hg8.output, hg8.size, fun k hk hn => hg8.block k hk fun e => hn e.symm⟩ fun k hk => .inl (.inr (.inr (.inl hk)))
  refine Fb.below ?_ h7
  refine Fb.trans (G := at1 mb) ?_ hf6 fun k hk => .inl (.inr (.inl hk))
  refine Fb.below ?_ hb5
  exact (Fb.of hb3).trans hf4 fun k hk => .inr (by rw [show k = jb from hk]; exact hjb)
 have hnewb : ∀ k, w.heap.size ≤ k → k < w3.heap.size → k ≠ jb → w9.heap[k]? = w3.heap[k]? := fun k h1 h2 e => by
  have hqn : qv.ownBlock ≠ some k := fun e2 => by have := (World.ownsRow.lt h.qrow k e2).2; omega
  exact (hf9.block k (by omega) fun e2 => by have : k = B := e2; omega).trans ((hg8.block k (by omega) fun e2 => hqn e2.symm).trans ((h7.block k (by omega)).trans ((hf6.block k (by omega) fun e2 => by have : k = mb := e2; omega).trans ((hb5.block k (by omega)).trans (hf4.block k h2 fun e2 => e e2)))))
 have ha3 : ∀ k, mF a3 k → w9.heap[k]? = w3.heap[k]? ∧ w.heap.size ≤ k ∧ IntB w3 k := fun k ⟨p, e, e2⟩ => by
  obtain ⟨g1, g2⟩ := hn3 p e
  rw [e2] at g1 g2
  refine ⟨hnewb k g1 g2.lt fun ej => ?_, g1, g2⟩
  obtain ⟨cur, fz, hc⟩ := g2
  rw [ej, hjc] at hc
  simp at hc
 have hr9 : Reads .i64 w9 a3 m.job.lp c3 m.job.ts := hr3.same fun k hk => (ha3 k hk).1
 have hblk : w9.heap[w4.heap.size]? = some (.cells #[.int .u64 m.att, .int .u64 m.job.seed, .slice a3 m.job.lp c3, .int .i64 m.job.most, .int .i64 m.n, .pointer none] 106 (0, 0)) := by
  have hqn : qv.ownBlock ≠ some w4.heap.size := fun e2 => by have := (World.ownsRow.lt h.qrow _ e2).2; omega
  exact (hf9.block _ (by omega) fun e2 => by have : w4.heap.size = B := e2; omega).trans ((hg8.block _ (by omega) fun e2 => hqn e2.symm).trans ((h7.block _ (by omega)).trans ((hf6.block _ hlt5 fun e2 => by have : w4.heap.size = mb := e2; omega).trans hc5)))
 have hk2 : ((newA m).k : Int) = m.n := by show ((m.n.toNat : Nat) : Int) = _; omega
 have hmo2 : ((newA m).most : Int) = m.job.most := by show ((m.job.most.toNat : Nat) : Int) = _; omega
 have hat : AtIn w9 S.s.c w4.heap.size (newA m) (fun k => It k ∨ mF a3 k) := by
  refine ⟨a3, c3, none, ?_, ?_, fun k hk => .inr hk, .inl rfl, fun t ht => ?_⟩
  ·rw [hblk]
   unfold AtV
   rw [hk2, hmo2]
   show some (Obj.cells #[.int .u64 m.att, .int .u64 m.job.seed, .slice a3 m.job.lp c3, .int .i64 m.job.most, .int .i64 m.n, .pointer none] _ _) = some (Obj.cells #[.int .u64 m.att, .int .u64 m.job.seed, .slice a3 m.job.ts.length c3, .int .i64 m.job.most, .int .i64 m.n, .pointer none] _ _)
   rw [hlp]
  ·show Reads .i64 w9 a3 m.job.ts.length c3 m.job.ts
   rw [hlp]
   exact hr9
  ·have ht' : t ∈ m.job.ts := ht
   obtain ⟨i, hi, e⟩ := List.getElem_of_mem ht'
   have := y3 i hi
   rw [List.getElem?_eq_getElem hi, e] at this
   exact this
 have hmbw : w9.heap[mb]? = w6.heap[mb]? := (hf9.block mb (by omega) fun e => h.Bmb (Eq.symm e)).trans ((hg8.block mb (by omega) fun e => h.mq e.symm).trans (h7.block mb (by have := h6.lt; omega)))
 have hqb8 : ∀ k, v8.ownBlock = some k → qv.ownBlock = some k ∨ w.heap.size ≤ k := fun k e => by
  rcases hmv with e2 | ⟨o, e2, hl⟩
  ·rw [e2] at e; exact .inl e
  ·rw [e2] at e
   cases e
   exact .inr (by omega)
 have hII := h.its hF fun k hk => .inl (reF_en hk)
 have hmore := h.more (a := newA m) (b := w4.heap.size) (It' := fun k => It k ∨ mF a3 k) hF hno ⟨hm.att, hm.seed, by show m.job.most.toNat ≤ 256; omega, by show m.n.toNat ≤ m.job.most.toNat; omega, by show m.job.ts.length + m.n.toNat < 256; omega⟩ rfl hq hat (by omega) (fun k hk => .inl hk) (fun k hk => by
  rcases hk with h' | h'
  ·exact ⟨(h.itI k h').1.same (hII k h'), (h.itI k h').2⟩
  ·obtain ⟨g1, g2, g3⟩ := ha3 k h'
   exact ⟨g3.same g1, fun hf => by have := h.ca.old k hf; omega⟩) (qv' := v8) (by rw [h9]; exact row_set (k := 8) (u := v8) hvB) (h6.same hmbw) (own_blk h8 fun b e => hf9.block b (World.ownsRow.lt h8 b e).2 fun e2 => by
   rcases hqb8 b e with h' | h'
   ·exact h.Bq (by rw [h', show b = B from e2])
   ·have : b = B := e2; omega) hqb8 (fun k e => (hf9.block k (by have := (World.ownsRow.lt h.brow k e).2; omega) fun e2 => h.Bb (by rw [e, show k = B from e2])).trans (hold k (World.ownsRow.lt h.brow k e).2 (fun e2 => h.mbv (by rw [e, e2])) fun e2 => h.qb k e2 e))
 refine ⟨_, [], _, _, _, _, _, _, _, rfl, hmore, MRow.nil _ _ _, fun k hk => ?_, fun k hk => ?_, hF.mono fun k hk => reF_en hk⟩
 ·rcases hk with h' | h' | h' | h' | ⟨x, hx, h'⟩ | h'
  ·exact .inl (.inl h')
  ·exact .inl (.inr (.inl h'))
  ·rcases hqb8 k h' with h'' | h''
   ·exact .inl (.inr (.inr (.inl h'')))
   ·exact .inr h''
  ·exact .inl (.inr (.inr (.inr (.inl h'))))
  ·have hx' : x ∈ S.L ++ [newA m] := hx
   unfold updN at h'
   split at h'
   ·exact .inr (by omega)
   ·rename_i hne
    rcases List.mem_append.1 hx' with hx'' | hx''
    ·exact .inl (.inr (.inr (.inr (.inr (.inl ⟨x, hx'', h'⟩)))))
    ·exact absurd (by rw [List.mem_singleton.1 hx'']) hne
  ·exact .inl (.inr (.inr (.inr (.inr (.inr h')))))
 ·rcases hk with h' | h'
  ·exact .inl h'
  ·exact .inr (ha3 k h').2.1
end
end Go.Proofs.YtjgggialnegddaaGreat
