/-
  The texts SaMath, SaDraws, SaBest, SaMarks, SaNext of this proof.
-/
import Derived.Test.YtjgggialnegddaaGreatPq09
import Derived.Test.YtjgggialnegddaaGreatPq20
import Derived.Test.YtjgggialnegddaaGreatPq01
import Derived.Test.YtjgggialnegddaaGreatPq21
import Derived.Deep.QuietTactic
import Derived.BigQuiet
import Derived.Deep.RegionHeld3
import Derived.Test.YtjgggialnegddaaGreatPq10
set_option linter.unusedVariables false
set_option maxRecDepth 1000000
namespace Go.Proofs.YtjgggialnegddaaGreat
open Go.RowKit
noncomputable def the (P : Int → Prop) : Int := open Classical in if h : ∃ t, P t then h.choose else 0
theorem the_eq {P : Int → Prop} {t : Int} (h : P t) (one : ∀ a b, P a → P b → a = b) : the P = t := by
 unfold the
 rw [dif_pos ⟨t, h⟩]
 exact one _ _ (Exists.choose_spec ⟨t, h⟩) h
structure FirstAt (ws : List Int) (n : Nat) (d : Int) (k : Nat) : Prop where
 lt : k < n
 up : d < sumK ws (k + 1)
 low : ∀ j, j < k → sumK ws (j + 1) ≤ d
theorem FirstAt.one {ws : List Int} {n : Nat} {d : Int} {k k' : Nat} (h : FirstAt ws n d k) (h' : FirstAt ws n d k') : k = k' := by
 rcases Nat.lt_trichotomy k k' with hl | rfl | hl
 ·have := h'.low k hl; have := h.up; omega
 ·rfl
 ·have := h.low k' hl; have := h'.up; omega
theorem first_no {ws : List Int} {n : Nat} {d : Int} (d0 : 0 ≤ d) (hd : d < sumK ws n) (h : ∀ j, j < n → sumK ws (j + 1) ≤ d) : False := by
 rcases n with _ | n
 ·simp only [sumK] at hd; omega
 ·have := h n (by omega); omega
def cntZ (zs : List Int) (heat p : Int) : Int := divZ (mulZ (zs[p.toNat]?.getD 0) (fromZ 4)) (fromZ heat)
def cntL (zs : List Int) (heat : Int) (ps : List Int) : List Int := ps.map (cntZ zs heat)
def wtL (zs : List Int) (heat : Int) (ps : List Int) : List Int := softL (cntL zs heat ps)
theorem cntL_len (zs : List Int) (heat : Int) (ps : List Int) : (cntL zs heat ps).length = ps.length := by simp [cntL]
def BestOf (zs : List Int) (t : Int) : Prop := (zs = [] ∧ t = -1) ∨ (0 < zs.length ∧ TopOf zs zs.length 1 [t])
theorem BestOf.one {zs : List Int} : ∀ a b, BestOf zs a → BestOf zs b → a = b := by
 intro a b h h'
 rcases h with ⟨h1, h2⟩ | ⟨h1, h2⟩ <;> rcases h' with ⟨k1, k2⟩ | ⟨k1, k2⟩
 ·omega
 ·rw [h1] at k1; simp at k1
 ·rw [k1] at h1; simp at h1
 ·have := h2.one k2; simpa using this
def mx1 (t : Int) : Int := max t 1
def DrawOf (zs : List Int) (top heat s p t : Int) : Prop :=
 ((zs = [] ∨ heat < 1) ∧ BestOf zs t) ∨
 (0 < zs.length ∧ 1 ≤ heat ∧ ∃ (K k : Nat) (ps : List Int), Kof (mx1 top) zs.length K ∧ TopOf zs zs.length K ps ∧ FirstAt (wtL zs heat ps) K (belowZ s p (sumK (wtL zs heat ps) K)) k ∧ t = ps[k]?.getD 0)
theorem Kof.one {k : Int} {len K K' : Nat} (h : Kof k len K) (h' : Kof k len K') : K = K' := by unfold Kof at *; omega
theorem DrawOf.one {zs : List Int} {top heat s p : Int} : ∀ a b, DrawOf zs top heat s p a → DrawOf zs top heat s p b → a = b := by
 intro a b h h'
 rcases h with ⟨h1, h2⟩ | ⟨h1, h2, K, k, ps, h3, h4, h5, h6⟩ <;> rcases h' with ⟨k1, k2⟩ | ⟨k1, k2, K', k', ps', k3, k4, k5, k6⟩
 ·exact h2.one _ _ k2
 ·rcases h1 with rfl | h1
  ·simp at k1
  ·omega
 ·rcases k1 with rfl | k1
  ·simp at h1
  ·omega
 ·obtain rfl := h3.one k3
  obtain rfl := h4.one k4
  obtain rfl := h5.one k5
  rw [h6, k6]
noncomputable def drawZ (zs : List Int) (top heat s p : Int) : Int := the (DrawOf zs top heat s p)
theorem DrawOf.eq {zs : List Int} {top heat s p t : Int} (h : DrawOf zs top heat s p t) : drawZ zs top heat s p = t := the_eq h DrawOf.one
theorem TopOf.at {zs : List Int} {n K : Nat} {ps : List Int} (h : TopOf zs n K ps) {i : Nat} (hi : i < K) : ∃ m : Nat, ps[i]?.getD 0 = m ∧ m < n := by
 obtain ⟨qs, rest, rfl, hl, hf, hp, hr⟩ := h
 have hq : i < qs.length := by omega
 have hm : qs[i] ∈ marksK zs n := hp.subset (List.mem_append_left _ (List.getElem_mem hq))
 obtain ⟨m, h1, h2⟩ := marksK_mem.1 hm
 refine ⟨m, ?_, h1⟩
 simp [hq, h2]
theorem great_at (zs : List Int) (k : Nat) : 0 < k → ∃ i, i < k ∧ wi (zs[i]?.getD 0) = greatK zs k := by
 induction k with
 | zero => intro h; omega
 | succ k ih =>
  intro _
  by_cases h : k = 0 ∨ greatK zs k < wi (zs[k]?.getD 0)
  ·exact ⟨k, by omega, by rw [greatK, if_pos h]⟩
  ·obtain ⟨i, h1, h2⟩ := ih (by omega)
   exact ⟨i, by omega, by rw [greatK, if_neg h, h2]⟩
theorem exp_m1 : 32768 ≤ expZ (-1) := by decide +kernel
theorem soft_sum {zs : List Int} (h : 0 < zs.length) : 0 < sumK (softL zs) zs.length ∧ sumK (softL zs) zs.length ≤ 2147483647 := by
 have hP : Pos (softL zs) := fun i => ⟨(softL_bd zs i).1, by have := (softL_bd zs i).2; omega⟩
 refine ⟨?_, (sumK_bd hP _).2⟩
 obtain ⟨i, h1, h2⟩ := great_at zs zs.length h
 have hge := sumK_ge hP zs.length i h1
 have hp : 32768 ≤ (powL zs)[i]?.getD 0 := by
  rw [powL_at h1]
  refine Int.le_trans exp_m1 (expZ_le ?_)
  unfold addZ
  rw [h2]
  have hb := greatK_bd zs zs.length
  generalize greatK zs zs.length = g at *
  have : -1 ≤ g + wi (-g) := by unfold wi; split <;> (try split) <;> omega
  have := wi_le this
  rwa [show wi (-1) = -1 from rfl] at this
 have hs := sumK_ge (powL_pos zs) zs.length i h1
 have hb := sumK_bd (powL_pos zs) zs.length
 rw [softL_at h1] at hge
 have hv := div_val (powL_pos zs i).1 hs hb.2 (by omega)
 rw [hv.1] at hge
 have : 1 ≤ (powL zs)[i]?.getD 0 * 65536 / sumK (powL zs) zs.length := by
  refine (Int.le_ediv_iff_mul_le (by omega)).2 ?_
  omega
 omega
theorem wt_sum {zs : List Int} {heat : Int} {ps : List Int} {K : Nat} (h : ps.length = K) (hK : 0 < K) : 0 < sumK (wtL zs heat ps) K ∧ sumK (wtL zs heat ps) K ≤ 2147483647 := by
 have hl := cntL_len zs heat ps
 have := soft_sum (zs := cntL zs heat ps) (by omega)
 rw [hl, h] at this
 exact this
theorem below_sum {zs : List Int} {heat : Int} {ps : List Int} {K : Nat} (s p : Int) (h : ps.length = K) (hK : 0 < K) : 0 ≤ belowZ s p (sumK (wtL zs heat ps) K) ∧ belowZ s p (sumK (wtL zs heat ps) K) < sumK (wtL zs heat ps) K := below_bd s p (wt_sum h hK).1
theorem kof_pos {t : Int} {len K : Nat} (h : Kof (mx1 t) len K) (hl : 0 < len) : 0 < K := by unfold Kof mx1 at h; omega
theorem best_nil : BestOf [] (-1) := .inl ⟨rfl, rfl⟩
end Go.Proofs.YtjgggialnegddaaGreat
namespace Go.Proofs.YtjgggialnegddaaGreat
open Go.RowKit
theorem ssum_any (g len cap : Nat) (ws : List Int) (w : World) (ha : Reads .i64 w (some ⟨g, 0, none⟩) len cap ws) (hlen : len ≤ 1000) :
  Calls Tryz.prog 198 #[.slice (some ⟨g, 0, none⟩) len cap] w fun e w' => e = .returned (.int .i64 (sumK ws len)) ∧ w' = w := by
 have hroom := ha.room
 have hmost := ha.most
 have HA := hid ha
 clear ha
 go_enter Tryz.func198, Tryz.ntmps198
 go_wp2_with fail
 go_loopw [3, 8] (fun s i W => ∃ k : Nat, k ≤ len ∧ s = .int .i64 (sumK ws k) ∧ i = .int .i64 k ∧ Hid (W = w)) (fun _ i _ => len - (intOf i).toNat)
 case atStart => exact ⟨0, Nat.zero_le _, rfl, rfl, rfl⟩
 case round =>
  obtain ⟨k, hk, rfl, rfl, hW⟩ := hrel
  have hW := hW.out
  subst hW
  by_cases hlt : k < len
  ·have ck := HA.out.at hlt
   rw [Nat.zero_add] at ck
   have HSu : Hid (addZ (sumK ws k) (ws[k]?.getD 0) = sumK ws (k + 1)) := rfl
   generalize sumK ws k = s at *
   generalize ws[k]?.getD 0 = x at *
   go_wp2_with fail
   refine (add_any _ _ _).mono ?_
   rintro e w' ⟨rfl, rfl⟩
   rw [HSu.out]
   go_wp2_with fail
   go_round
   case rel => exact ⟨k + 1, by omega, rfl, by go_num, trivial⟩
   case measure => simp [intOf]; omega
  ·obtain rfl : k = len := by omega
   go_wp2
   go_ret
   exact ⟨rfl, rfl⟩
theorem fa1_any (x s d : Int) (B Bn : Nat) (w : World) (hB : w.heap[B]? = some (.cells #[.int .i64 s] 2 (0, 0))) (hn : w.heap[Bn]? = some (.cells #[.int .i64 d] 2 (0, 0))) (hne : Bn ≠ B) :
  Calls Tryz.prog 223 #[.int .i64 x, .pointer (some ⟨B, 0, none⟩), .pointer (some ⟨Bn, 0, none⟩)] w fun e w' => e = .returned (.bool (decide (d < addZ s x))) ∧ w'.heap[B]? = some (.cells #[.int .i64 (addZ s x)] 2 (0, 0)) ∧ But [B] w w' := by
 have cs := cell_of_one hB
 have fs := free_of_one hB
 have hO := one_setCell (u := .int .i64 (addZ s x)) hB
 have HO := hid hO
 have HBt : Hid (But [B] w (w.setCell ⟨B, 0, none⟩ (.int .i64 (addZ s x)))) := (But.refl _ _).set (p := ⟨B, 0, none⟩) (List.mem_singleton.2 rfl) _
 have cs2 := cell_of_one hO
 have cn2 := cell_of_one (HBt.out.one hn (by simpa using hne))
 clear hB hn hO
 go_enter Tryz.func223, Tryz.ntmps223
 go_wp2_with fail
 refine (add_any _ _ _).mono ?_
 rintro e w' ⟨rfl, rfl⟩
 go_wp2
 go_ret
 exact ⟨rfl, HO.out, HBt.out⟩
structure FaAt (w : World) (d s : Int) (W : World) : Prop where
 old : Below w.heap.size w W
 num : W.heap[w.heap.size]? = some (.cells #[.int .i64 d] 2 (0, 0))
 var : W.heap[w.heap.size + 1]? = some (.cells #[.int .i64 s] 2 (0, 0))
theorem FaAt.new (w : World) (d : Int) : FaAt w d 0 ((w.alloc (.cells #[.int .i64 d] 2)).alloc (.cells #[.int .i64 0] 2)) := by
 refine ⟨((Below.refl _ _).alloc (Nat.le_refl _) _).alloc (by simp) _, ?_, ?_⟩
 ·rw [Below.heap_alloc _ _ _ (by simp)]; exact heap_alloc_new w _
 ·have := heap_alloc_new (w.alloc (.cells #[.int .i64 d] 2)) (.cells #[.int .i64 0] 2)
  simpa using this
theorem fIndex_any (g len cap : Nat) (ws : List Int) (d : Int) (w W : World) (ha : Reads .i64 w (some ⟨g, 0, none⟩) len cap ws) (hlen : len ≤ 1000) (d0 : 0 ≤ d) (hd : d < sumK ws len) (h0 : FaAt w d 0 W) :
  Calls Tryz.prog 222 #[.slice (some ⟨g, 0, none⟩) len cap, .func (.func 223) #[] #[.pointer (some ⟨w.heap.size + 1, 0, none⟩), .pointer (some ⟨w.heap.size, 0, none⟩)]] W fun e w' => ∃ k : Nat, e = .returned (.int .i64 k) ∧ FirstAt ws len d k ∧ Below w.heap.size w w' := by
 have hroom := ha.room
 have hmost := ha.most
 have HA := hid ha
 have HD := hid hd
 have HD0 := hid d0
 have H0 : Hid (FaAt w d (sumK ws 0) W) := h0
 have hEn := enters_of Tryz.func223 (by kernel_rfl) rfl
 clear ha hd h0 d0
 go_enter Tryz.func222, Tryz.ntmps222
 go_wp2_with fail
 go_loopw [8] (fun i W => ∃ k : Nat, k ≤ len ∧ i = .int .i64 k ∧ Hid (FaAt w d (sumK ws k) W) ∧ Hid (∀ j, j < k → sumK ws (j + 1) ≤ d)) (fun i _ => len - (intOf i).toNat)
 case atStart => exact ⟨0, Nat.zero_le _, rfl, H0, fun j hj => absurd hj (by omega)⟩
 case round =>
  obtain ⟨k, hk, rfl, HF, HL⟩ := hrel
  clear H0
  rename World => wr
  by_cases hlt : k < len
  ·have ck := (HA.out.below HF.out.old).at hlt
   rw [Nat.zero_add] at ck
   have HSu : Hid (addZ (sumK ws k) (ws[k]?.getD 0) = sumK ws (k + 1)) := rfl
   have hC := fa1_any (ws[k]?.getD 0) (sumK ws k) d _ _ wr HF.out.var HF.out.num (by omega)
   rw [HSu.out] at hC
   have HN : Hid (∀ W', But [w.heap.size + 1] wr W' → W'.heap[w.heap.size + 1]? = some (.cells #[.int .i64 (sumK ws (k + 1))] 2 (0, 0)) → FaAt w d (sumK ws (k + 1)) W') := fun W' hb hv =>
    ⟨HF.out.old.trans (hb.to (fun s hs => by rw [List.mem_singleton.1 hs]; omega) HF.out.old.size), hb.one HF.out.num (by simp), hv⟩
   clear HF HSu
   generalize ws[k]?.getD 0 = x at *
   by_cases hu : d < sumK ws (k + 1)
   ·have HE : Hid (FirstAt ws len d k) := ⟨hlt, hu, HL.out⟩
    rw [decide_eq_true hu] at hC
    clear HA HD HL hu
    go_wp2_with fail
    refine hC.mono ?_
    rintro e w2 ⟨rfl, h2, hb⟩
    have HB := hid (HN.out _ hb h2).old
    clear hC h2 hb HN
    go_wp2
    go_ret
    exact ⟨k, rfl, HE.out, HB.out⟩
   ·rw [decide_eq_false hu] at hC
    have HL2 : Hid (∀ j, j < k + 1 → sumK ws (j + 1) ≤ d) := fun j hj => by
     rcases (by omega : j < k ∨ j = k) with h | rfl
     ·exact HL.out j h
     ·omega
    clear HL hu
    go_wp2_with fail
    refine hC.mono ?_
    rintro e w2 ⟨rfl, h2, hb⟩
    have HF2 := hid (HN.out _ hb h2)
    clear hC h2 hb HN
    go_wp2_with fail
    go_round
    case rel => exact ⟨k + 1, by omega, by go_num, HF2, HL2⟩
    case measure => simp [intOf]; omega
  ·obtain rfl : k = len := by omega
   exact (first_no HD0.out HD.out HL.out).elim
theorem above_any (g len cap : Nat) (ws : List Int) (d : Int) (w : World) (ha : Reads .i64 w (some ⟨g, 0, none⟩) len cap ws) (hlen : len ≤ 1000) (d0 : 0 ≤ d) (hd : d < sumK ws len) :
  Calls Tryz.prog 199 #[.slice (some ⟨g, 0, none⟩) len cap, .int .i64 d] w fun e w' => ∃ k : Nat, e = .returned (.int .i64 k) ∧ FirstAt ws len d k ∧ Below w.heap.size w w' := by
 have HC := hid (fIndex_any g len cap ws d w _ ha hlen d0 hd (FaAt.new w d))
 clear ha d0 hd
 go_enter Tryz.func199, Tryz.ntmps199
 go_wp2_with fail
 refine HC.out.mono ?_
 rintro e w2 ⟨k, rfl, hF, hb⟩
 have HE := hid hF
 have HB := hid hb
 clear HC hF hb
 go_wp2
 go_ret
 exact ⟨k, rfl, HE.out, HB.out⟩
theorem count1_any (a : Option Addr) (len cap m : Nat) (zs : List Int) (heat : Int) (B1 B2 : Nat) (w : World) (ha : Reads .i64 w a len cap zs) (hlen : len ≤ 1000) (hm : m < len)
  (h1 : w.heap[B1]? = some (.cells #[.slice a len cap] 131 (0, 0))) (h2 : w.heap[B2]? = some (.cells #[.int .i64 heat] 3 (0, 0))) :
  Calls Tryz.prog 193 #[.int .i64 m, .pointer (some ⟨B1, 0, none⟩), .pointer (some ⟨B2, 0, none⟩)] w fun e w' => e = .returned (.int .i64 (cntZ zs heat m)) ∧ Below w.heap.size w w' := by
 have c1 := cell_of_one h1
 have c2 := cell_of_one h2
 have hroom := ha.room
 have hmost := ha.most
 obtain ⟨b, o, rfl, cm⟩ := ha.cell m hm
 have HE : Hid (divZ (mulZ (zs[m]?.getD 0) (fromZ 4)) (fromZ heat) = cntZ zs heat m) := by unfold Hid cntZ; rw [Int.toNat_natCast]
 have q1 : (m : Int) < (len : Int) := by omega
 clear ha h1 h2
 generalize zs[m]?.getD 0 = x at *
 go_enter Tryz.func193, Tryz.ntmps193
 go_wp2_with fail
 go_quiet (first | (go_at_call 196; exact Calls.quiet_of_same (from_any _ _)) | (go_at_call 195; exact Calls.quiet_of_same (mul_any _ _ _)) | (go_at_call 194; exact Calls.quiet_of_same (div_any _ _ _)))
 go_wp2
 go_ret
 exact ⟨ret_int HE.out, ⟨rfl, rfl, rfl, Nat.le_refl _, fun _ _ => rfl⟩⟩
end Go.Proofs.YtjgggialnegddaaGreat
namespace Go.Proofs.YtjgggialnegddaaGreat
open Go.RowKit
theorem block_up {w w' : World} {k : Nat} {o : Obj} (h : w.heap[k]? = some o) (hb : Below w.heap.size w w') : w'.heap[k]? = some o := (hb.block k (lt_of_block h)).trans h
set_option maxHeartbeats 1000000 in
theorem weigh_any (a : Option Addr) (len cap gt K ct : Nat) (zs ps : List Int) (heat : Int) (B1 B2 : Nat) (w : World) (ha : Reads .i64 w a len cap zs) (hlen : len ≤ 1000) (ht : Reads .i64 w (some ⟨gt, 0, none⟩) K ct ps) (hK : K ≤ 1000)
  (hp : ∀ i, i < K → ∃ m : Nat, ps[i]?.getD 0 = m ∧ m < len)
  (h1 : w.heap[B1]? = some (.cells #[.slice a len cap] 131 (0, 0))) (h2 : w.heap[B2]? = some (.cells #[.int .i64 heat] 3 (0, 0))) :
  Calls Tryz.prog 192 #[.slice (some ⟨gt, 0, none⟩) K ct, .func (.func 193) #[] #[.pointer (some ⟨B1, 0, none⟩), .pointer (some ⟨B2, 0, none⟩)]] w fun e w' => Made w K (wtL zs heat ps) e w' := by
 have hmk : ∀ W : World, (Instr.makeSlice 131 (.int .i64 (K : Int)) (.int .i64 (K : Int))).run Tryz.prog W = .ok (.slice (some ⟨W.heap.size, 0, none⟩) K K) (W.alloc (.cells (madeCells #[.int .i64 0] K) 2)) := fun W => make_ints W K (by omega)
 have hpl := ht.size
 have hroom := ht.room
 have hmost := ht.most
 have HO0 : Hid (OwnK 2 w.heap.size w.heap.size K K (madeK (cntZ zs heat) ps K 0) (w.alloc (.cells (madeCells #[.int .i64 0] K) 2))) := by
  have := own_made 2 w K (by omega)
  unfold Hid madeK
  simpa using this
 have HB0 : Hid (Below w.heap.size w (w.alloc (.cells (madeCells #[.int .i64 0] K) 2))) := (Below.refl _ _).alloc (Nat.le_refl _) _
 have HC : Hid (∀ k, k < K → ∀ W, Below w.heap.size w W → Calls Tryz.prog 193 #[.int .i64 (ps[k]?.getD 0), .pointer (some ⟨B1, 0, none⟩), .pointer (some ⟨B2, 0, none⟩)] W fun e w' => e = .returned (.int .i64 (cntZ zs heat (ps[k]?.getD 0))) ∧ Below W.heap.size W w') := by
  intro k hk W hb
  obtain ⟨m, e, hm⟩ := hp k hk
  rw [e]
  exact count1_any a len cap m zs heat B1 B2 W (ha.below hb) hlen hm ((hb.block _ (lt_of_block h1)).trans h1) ((hb.block _ (lt_of_block h2)).trans h2)
 have HT := hid fun W (hb : Below w.heap.size w W) => ht.below hb
 have hEn := enters_of Tryz.func193 (by kernel_rfl) rfl
 have HS := hid fun g W (hO : OwnK 2 w.heap.size g K K (cntL zs heat ps) W) => soft_any _ K K (cntL zs heat ps) W hO.reads hK
 have HMK : Hid (∀ k, k < K → (madeK (cntZ zs heat) ps K k).set k (cntZ zs heat (ps[k]?.getD 0)) = madeK (cntZ zs heat) ps K (k + 1)) := fun k hk => by rw [← hpl]; exact madeK_set (by omega)
 have HMA : Hid (madeK (cntZ zs heat) ps K K = cntL zs heat ps) := by unfold Hid cntL; rw [← hpl]; exact madeK_all _ _
 clear ha ht hp h1 h2 hpl
 go_enter Tryz.func192, Tryz.ntmps192
 go_wp2_with fail
 clear hmk
 go_loopw [13] (fun i W => ∃ k : Nat, k ≤ K ∧ i = .int .i64 k ∧ Hid (OwnK 2 w.heap.size w.heap.size K K (madeK (cntZ zs heat) ps K k) W) ∧ Hid (Below w.heap.size w W)) (fun i _ => K - (intOf i).toNat)
 case atStart => exact ⟨0, Nat.zero_le _, rfl, HO0, HB0⟩
 case round =>
  obtain ⟨k, hk, rfl, HO, HW⟩ := hrel
  clear HO0 HB0
  rename World => wr
  by_cases hlt : k < K
  ·have ck := (HT.out _ HW.out).at hlt
   rw [Nat.zero_add] at ck
   have hC := HC.out k hlt wr HW.out
   have HE := HMK.out k hlt
   have q1 : (k : Int) < (K : Int) := by omega
   clear HS HMA HC HMK HT
   generalize cntZ zs heat (ps[k]?.getD 0) = y at *
   generalize ps[k]?.getD 0 = x at *
   go_wp2_with fail
   refine hC.mono ?_
   rintro e w2 ⟨rfl, hb⟩
   have HO2 := hid (HO.out.stays hb)
   have ck2 := HO2.out.cell hlt
   have fk := HO2.out.frozen k
   have HO3 : Hid (OwnK 2 w.heap.size w.heap.size K K (madeK (cntZ zs heat) ps K (k + 1)) (w2.setCell ⟨w.heap.size, k, none⟩ (.int .i64 y))) := by
    rw [← HE]; exact HO2.out.set k y
   have HW2 := hid ((HW.out.trans (hb.mono HW.out.size)).setCell (p := ⟨w.heap.size, k, none⟩) (Nat.le_refl _) (.int .i64 y))
   clear hb hC HO HW HO2 HE ck
   go_wp2_with fail
   go_round
   case rel => exact ⟨k + 1, by omega, by go_num, HO3, HW2⟩
   case measure => simp [intOf]; omega
  ·obtain rfl : k = K := by omega
   have hO := HO.out
   rw [HMA.out] at hO
   have hS := HS.out _ wr hO
   clear HS HMA HC HMK HT HO hO
   go_wp2_with fail
   refine hS.mono ?_
   rintro e w2 ⟨g2, c2, rfl, hO2, hb⟩
   have HO2 := hid (hO2.low HW.out.size)
   have HW2 := hid (HW.out.trans (hb.mono HW.out.size))
   clear hS hO2 hb HW
   go_wp2
   go_ret
   exact ⟨_, _, rfl, HO2.out, HW2.out⟩
theorem best_of (a : Option Addr) (len cap : Nat) (zs : List Int) (w : World) (ha : Reads .i64 w a len cap zs) (hlen : len ≤ 1000) :
  Calls Tryz.prog 190 #[.slice a len cap] w fun e w' => ∃ t, e = .returned (.int .i64 t) ∧ BestOf zs t ∧ Below w.heap.size w w' := by
 have hz := ha.size
 by_cases h0 : len = 0
 ·subst h0
  have hz : zs = [] := List.eq_nil_of_length_eq_zero hz
  subst hz
  clear ha
  go_enter Tryz.func190, Tryz.ntmps190
  go_wp2
  go_ret
  exact ⟨_, rfl, best_nil, Below.refl _ _⟩
 ·have hK : Kof 1 len 1 := by unfold Kof; omega
  have hT := top_any a len cap 1 1 zs w ha hlen hK (by omega)
  have q1 : ¬ (len : Int) = 0 := by omega
  clear ha hK
  go_enter Tryz.func190, Tryz.ntmps190
  go_wp2_with fail
  refine hT.mono ?_
  rintro e w2 ⟨g, ps, rfl, hO, hP, hb⟩
  have c0 := hO.cell (k := 0) (by omega)
  have HE : Hid (BestOf zs (ps[0]?.getD 0)) := by
   have hl := hP.len
   match ps, hl with
   | [x], _ =>
    refine .inr ⟨by omega, ?_⟩
    rw [hz]
    exact hP
  generalize ps[0]?.getD 0 = t at *
  have HB := hid hb
  clear hT hO hP hb
  go_wp2
  go_ret
  exact ⟨t, rfl, HE.out, HB.out⟩
set_option maxHeartbeats 1000000 in
theorem draw_of (a : Option Addr) (len cap : Nat) (zs : List Int) (top heat s p : Int) (w : World) (ha : Reads .i64 w a len cap zs) (hlen : len ≤ 1000) :
  Calls Tryz.prog 175 #[.slice a len cap, .int .i64 top, .int .i64 heat, .int .u64 s, .int .u64 p] w fun e w' => ∃ t, e = .returned (.int .i64 t) ∧ DrawOf zs top heat s p t ∧ Below w.heap.size w w' := by
 have hz := ha.size
 obtain ⟨wA, hwA⟩ : ∃ wA, wA = (w.alloc (.cells #[.slice a len cap] 131)).alloc (.cells #[.int .i64 heat] 3) := ⟨_, rfl⟩
 have hB0 : Below w.heap.size w wA := by rw [hwA]; exact ((Below.refl _ _).alloc (Nat.le_refl _) _).alloc (by simp) _
 have e1 : wA.heap[w.heap.size]? = some (.cells #[.slice a len cap] 131 (0, 0)) := by
  rw [hwA, Below.heap_alloc _ _ _ (by simp)]; exact heap_alloc_new w _
 have e2 : wA.heap[w.heap.size + 1]? = some (.cells #[.int .i64 heat] 3 (0, 0)) := by
  have := heap_alloc_new (w.alloc (.cells #[.slice a len cap] 131)) (.cells #[.int .i64 heat] 3)
  rw [hwA]
  simpa using this
 have HC : Hid (∀ W, Below wA.heap.size wA W → W.cell? ⟨w.heap.size, 0, none⟩ = some (.slice a len cap) ∧ W.cell? ⟨w.heap.size + 1, 0, none⟩ = some (.int .i64 heat)) := fun W hb => ⟨cell_of_one (block_up e1 hb), cell_of_one (block_up e2 hb)⟩
 obtain ⟨c1, c2⟩ := HC.out wA (Below.refl _ _)
 have hroom := ha.room
 have hmost := ha.most
 by_cases hc : len = 0 ∨ heat < 1
 ·have hBe := best_of a len cap zs wA (ha.below hB0) hlen
  have HD : Hid (∀ t, BestOf zs t → DrawOf zs top heat s p t) := fun t ht => by
   refine .inl ⟨?_, ht⟩
   rcases hc with hc | hc
   ·left; exact List.eq_nil_of_length_eq_zero (by omega)
   ·right; exact hc
  have HB := hid hB0
  clear ha e1 e2 hB0 HC
  rw [hwA] at c1 c2
  by_cases h0 : len = 0
  ·subst h0
   clear hc
   go_enter Tryz.func175, Tryz.ntmps175
   go_wp2_with fail
   rw [← hwA]
   refine hBe.mono ?_
   rintro e w2 ⟨t, rfl, hT, hb⟩
   have HT := hid (HD.out t hT)
   replace HB := hid (HB.out.trans (hb.mono HB.out.size))
   clear hT hb hBe HD hwA c1 c2
   go_wp2
   go_ret
   exact ⟨t, rfl, HT.out, HB.out⟩
  ·have hh : heat < 1 := by omega
   have q1 : ¬ (len : Int) = 0 := by omega
   clear hc
   go_enter Tryz.func175, Tryz.ntmps175
   go_wp2_with fail
   rw [← hwA]
   refine hBe.mono ?_
   rintro e w2 ⟨t, rfl, hT, hb⟩
   have HT := hid (HD.out t hT)
   replace HB := hid (HB.out.trans (hb.mono HB.out.size))
   clear hT hb hBe HD hwA c1 c2
   go_wp2
   go_ret
   exact ⟨t, rfl, HT.out, HB.out⟩
 ·have h0 : 0 < len := by omega
  have hh : ¬ heat < 1 := by omega
  have q1 : ¬ (len : Int) = 0 := by omega
  obtain ⟨K, hK, hKl⟩ := kof_any (mx1 top) len
  have hK0 := kof_pos hK h0
  have hT := top_any a len cap K (mx1 top) zs wA (ha.below hB0) hlen hK hKl
  have hmx : (if top < 1 then 1 else top) = mx1 top := by unfold mx1; split <;> omega
  have HW := hid fun (W : World) gt ct ps (hb : Below wA.heap.size wA W) (ht : Reads .i64 W (some ⟨gt, 0, none⟩) K ct ps) (hP : TopOf zs len K ps) => weigh_any a len cap gt K ct zs ps heat w.heap.size (w.heap.size + 1) W ((ha.below hB0).below hb) hlen ht (by omega) (fun i hi => hP.at hi) (block_up e1 hb) (block_up e2 hb)
  have HD : Hid (∀ (k : Nat) ps, TopOf zs len K ps → FirstAt (wtL zs heat ps) K (belowZ s p (sumK (wtL zs heat ps) K)) k → DrawOf zs top heat s p (ps[k]?.getD 0)) := fun k ps hP hF => .inr ⟨by omega, by omega, K, k, ps, by rw [hz]; exact hK, by rw [hz]; exact hP, hF, rfl⟩
  have HS : Hid (∀ ps, TopOf zs len K ps → (0 < sumK (wtL zs heat ps) K ∧ sumK (wtL zs heat ps) K ≤ 2147483647) ∧ 0 ≤ belowZ s p (sumK (wtL zs heat ps) K) ∧ belowZ s p (sumK (wtL zs heat ps) K) < sumK (wtL zs heat ps) K) := fun ps hP => ⟨wt_sum hP.len hK0, below_sum s p hP.len hK0⟩
  have HB := hid hB0
  clear ha e1 e2 hB0 hK hc
  rw [hwA] at c1 c2
  generalize mx1 top = T at *
  go_enter Tryz.func175, Tryz.ntmps175
  go_wp2_with fail
  rw [← hwA]
  refine hT.mono ?_
  rintro e w2 ⟨gt, ps, rfl, hO, hP, hb⟩
  have HO := hid hO
  have hw := HW.out w2 gt K ps hb hO.reads hP
  obtain ⟨⟨s0, s1⟩, d0, d1⟩ := HS.out ps hP
  replace HD := hid fun k => HD.out k ps hP
  have HP := hid hP
  replace HB := hid (HB.out.trans (hb.mono HB.out.size))
  clear hT hO hP hb HW HS HC hwA c1 c2 hmx
  go_wp2_with fail
  refine hw.mono ?_
  rintro e w3 ⟨gw, cw, rfl, hO, hb⟩
  have HR := hid hO.reads
  replace HO := hid (HO.out.stays hb)
  replace HB := hid (HB.out.trans (hb.mono HB.out.size))
  have HF := hid (above_any gw K cw (wtL zs heat ps) _ w3 hO.reads (by omega) d0 d1)
  have hcw := hO.reads.room
  have hcm := hO.reads.most
  clear hw hO hb d1
  have hSu := ssum_any gw K cw (wtL zs heat ps) w3 HR.out (by omega)
  generalize wtL zs heat ps = ws at *
  have HDb : Hid (belowZ s p (sumK ws K) ≤ 2147483647) := by
   have := below_bd s p s0
   unfold Hid
   omega
  go_wp2_with fail
  refine hSu.mono ?_
  rintro e w' ⟨rfl, rfl⟩
  clear hSu HR
  rename World => w3
  generalize sumK ws K = S at *
  go_wp2_with fail
  refine (dbelow_any s p S _ (by omega) (by omega)).mono ?_
  rintro e w' ⟨rfl, rfl⟩
  have d1 := HDb.out
  clear HDb
  generalize belowZ s p S = d at *
  go_wp2_with fail
  refine HF.out.mono ?_
  rintro e w4 ⟨k, rfl, hF, hb⟩
  have HE := hid (HD.out k hF)
  have ck := (HO.out.stays hb).cell hF.lt
  have hk := hF.lt
  replace HB := hid (HB.out.trans (hb.mono HB.out.size))
  clear HF HD HO hF hb HP
  generalize ps[k]?.getD 0 = t at *
  go_wp2
  go_ret
  exact ⟨t, rfl, HE.out, HB.out⟩
theorem draw_any (a : Option Addr) (len cap : Nat) (zs : List Int) (top heat s p : Int) (w : World) (ha : Reads .i64 w a len cap zs) (hlen : len ≤ 1000) :
  Calls Tryz.prog 175 #[.slice a len cap, .int .i64 top, .int .i64 heat, .int .u64 s, .int .u64 p] w fun e w' => e = .returned (.int .i64 (drawZ zs top heat s p)) ∧ Below w.heap.size w w' :=
 (draw_of a len cap zs top heat s p w ha hlen).mono fun e w' ⟨t, h1, h2, h3⟩ => ⟨by rw [h2.eq]; exact h1, h3⟩
end Go.Proofs.YtjgggialnegddaaGreat
namespace Go.Proofs.YtjgggialnegddaaGreat
open Go.RowKit
def smarkZ (c : Cf) (zs : List Int) (t : Nat) : Int := dotK (normL zs) (tokL c t) (min zs.length (tokL c t).length)
theorem cf_field1 (s v d l tt h : Int) (W : World) : (Instr.field 24 (.agg #[.int .u64 s, .int .i64 v, .int .i64 d, .int .i64 l, .int .i64 tt, .int .i64 h]) 1).run Tryz.prog W = .ok (.int .i64 v) W := by kernel_rfl
set_option maxHeartbeats 1000000 in
theorem marks_g (p : Option Addr) (c : Cf) (V : Nat) (a : Option Addr) (len cap : Nat) (zs : List Int) (w : World) (hp : MdAt w p c) (hV : c.vocab = V) (hV64 : V ≤ 64) (hm : 0 < V → mayB c = true) (ha : Reads .i64 w a len cap zs) (hlen : len ≤ 1000) :
  Calls Tryz.prog 176 #[.pointer p, .slice a len cap] w fun e w' => Made w V (rowK (smarkZ c zs) V) e w' := by
 have hmk : ∀ W : World, (Instr.makeSlice 131 (.int .i64 (V : Int)) (.int .i64 (V : Int))).run Tryz.prog W = .ok (.slice (some ⟨W.heap.size, 0, none⟩) V V) (W.alloc (.cells (madeCells #[.int .i64 0] V) 2)) := fun W => make_ints W V (by omega)
 have hz := ha.size
 have hN := norm_any a len cap zs w ha hlen
 have HC := hid fun W (hb : Below w.heap.size w W) => config_any p c W (hp.below hb)
 have HT := hid fun (t : Nat) (ht : t < V) W (hb : Below w.heap.size w W) => token_g p c t W (hp.below hb) (hm (by omega))
 have HT16 := hid fun (t : Nat) (ht : t < V) => tokL_len (hm (by omega)) t
 have HM : Hid (∀ t : Nat, smarkZ c zs t = dotK (normL zs) (tokL c t) (min len (tokL c t).length)) := fun t => by rw [← hz]; rfl
 clear ha hp hm
 generalize normL zs = ns at *
 obtain ⟨f, hf⟩ : ∃ f : Nat → Int, f = smarkZ c zs := ⟨_, rfl⟩
 rw [← hf] at HM ⊢
 obtain ⟨F, hF⟩ : ∃ F : Nat → List Int, F = fun t => tokL c (t : Nat) := ⟨_, rfl⟩
 have hFt : ∀ t : Nat, tokL c (t : Nat) = F t := fun t => by rw [hF]
 simp only [hFt] at HT HT16 HM
 clear hf hF hFt
 obtain ⟨s, v, d, l, tt, h⟩ := c
 simp only at hV
 subst hV
 unfold CfV at HC
 simp only at HC
 have hfd := cf_field1 s (V : Int) d l tt h
 go_enter Tryz.func176, Tryz.ntmps176
 go_wp2_with fail
 refine hN.mono ?_
 rintro e w1 ⟨gn, cn, rfl, hO, hb⟩
 have HN := hid hO.reads
 have HB := hid hb
 clear hN hO hb
 go_wp2_with fail
 refine (HC.out _ HB.out).mono ?_
 rintro e w2 ⟨rfl, hb⟩
 replace HN := hid (HN.out.below hb)
 replace HB := hid (HB.out.trans (hb.mono HB.out.size))
 clear hb HC
 have HO0 : Hid (OwnK 2 w2.heap.size w2.heap.size V V (rowK f 0 ++ List.replicate (V - 0) 0) (w2.alloc (.cells (madeCells #[.int .i64 0] V) 2))) := own_made 2 w2 V (by omega)
 have HV0 : Hid (Below w2.heap.size w2 (w2.alloc (.cells (madeCells #[.int .i64 0] V) 2))) := (Below.refl _ _).alloc (Nat.le_refl _) _
 go_wp2_with fail
 clear hmk
 go_loopw [16] (fun i W => ∃ k : Nat, k ≤ V ∧ i = .int .i64 k ∧ Hid (OwnK 2 w2.heap.size w2.heap.size V V (rowK f k ++ List.replicate (V - k) 0) W) ∧ Hid (Below w2.heap.size w2 W)) (fun i _ => V - (intOf i).toNat)
 case atStart => exact ⟨0, Nat.zero_le _, rfl, HO0, HV0⟩
 case round =>
  obtain ⟨k, hk, rfl, HO, HW⟩ := hrel
  clear HO0 HV0
  rename World => wr
  by_cases hlt : k < V
  ·have hT := HT.out k hlt wr (HB.out.trans (HW.out.mono HB.out.size))
   have h16 := HT16.out k hlt
   have HE := HM.out k
   have HSet := hid (rowK_set f hlt)
   have q1 : (k : Int) < (V : Int) := by omega
   clear HT HT16 HM
   generalize F k = ts at *
   go_wp2_with fail
   refine hT.mono ?_
   rintro e w3 ⟨u, rfl, hO3, hb⟩
   obtain ⟨at_, ct, rfl, hrt⟩ := Reads.own (k := .i64) hO3
   have HN3 := hid ((HN.out.below HW.out).below hb)
   replace HO := hid (HO.out.stays hb)
   replace HW := hid (HW.out.trans (hb.mono HW.out.size))
   have hD := dot_any (some ⟨gn, 0, none⟩) at_ len cn _ ct ns ts w3 HN3.out hrt hlen (by omega)
   rw [← HE] at hD
   clear hT hO3 hb hrt HN3
   go_wp2_with fail
   refine hD.mono ?_
   rintro e w4 ⟨rfl, hb⟩
   replace HO := hid (HO.out.stays hb)
   replace HW := hid (HW.out.trans (hb.mono HW.out.size))
   have ck := HO.out.cell hlt
   have fk := HO.out.frozen k
   have HO5 : Hid (OwnK 2 w2.heap.size w2.heap.size V V (rowK f (k + 1) ++ List.replicate (V - (k + 1)) 0) (w4.setCell ⟨w2.heap.size, k, none⟩ (.int .i64 (f k)))) := by
    rw [← HSet.out]; exact HO.out.set k (f k)
   have HW5 := hid (HW.out.setCell (p := ⟨w2.heap.size, k, none⟩) (Nat.le_refl _) (.int .i64 (f k)))
   clear hD hb HO HW HE HSet
   generalize f k = y at *
   go_wp2_with fail
   go_round
   case rel => exact ⟨k + 1, by omega, by go_num, HO5, HW5⟩
   case measure => simp [intOf]; omega
  ·obtain rfl : k = V := by omega
   have hO := HO.out
   rw [Nat.sub_self] at hO
   have HO5 : Hid (OwnK 2 w.heap.size w2.heap.size k k (rowK f k) wr) := by unfold Hid; simpa using hO.low HB.out.size
   have HW5 := hid (HB.out.trans (HW.out.mono HB.out.size))
   clear HO hO HW HB HT HT16 HM HN
   go_wp2
   go_ret
   exact ⟨_, _, rfl, HO5.out, HW5.out⟩
theorem smarks_any (p : Option Addr) (c : Cf) (a : Option Addr) (len cap : Nat) (zs : List Int) (w : World) (hp : MdAt w p c) (hm : mayB c = true) (ha : Reads .i64 w a len cap zs) (hlen : len ≤ 1000) :
  Calls Tryz.prog 176 #[.pointer p, .slice a len cap] w fun e w' => Made w c.vocab.toNat (rowK (smarkZ c zs) c.vocab.toNat) e w' := by
 have := may_parts hm
 exact marks_g p c c.vocab.toNat a len cap zs w hp (by omega) (by omega) (fun _ => hm) ha hlen
end Go.Proofs.YtjgggialnegddaaGreat
namespace Go.Proofs.YtjgggialnegddaaGreat
open Go.RowKit
noncomputable def nextZ (c : Cf) (zs : List Int) (s p : Int) : Int := drawZ (rowK (smarkZ c zs) c.vocab.toNat) c.top c.heat s p
set_option maxHeartbeats 1000000 in
theorem snext_any (pm : Option Addr) (c : Cf) (a : Option Addr) (len cap : Nat) (zs : List Int) (s0 p0 : Int) (w : World) (hp : MdAt w pm c) (hm : mayB c = true) (ha : Reads .i64 w a len cap zs) (hlen : len ≤ 1000) :
  Calls Tryz.prog 149 #[.pointer pm, .slice a len cap, .int .u64 s0, .int .u64 p0] w fun e w' => e = .returned (.int .i64 (nextZ c zs s0 p0)) ∧ Below w.heap.size w w' := by
 have hmp := may_parts hm
 obtain ⟨V, hV⟩ : ∃ V, c.vocab.toNat = V := ⟨_, rfl⟩
 have hV64 : V ≤ 64 := by omega
 have hC := config_any pm c w hp
 have HMk := hid fun (W : World) (hb : Below w.heap.size w W) => smarks_any pm c a len cap zs W (hp.below hb) hm (ha.below hb) hlen
 rw [hV] at HMk
 have HDr := hid fun (W : World) a' c' (hr : Reads .i64 W a' V c' (rowK (smarkZ c zs) V)) => draw_any a' V c' (rowK (smarkZ c zs) V) c.top c.heat s0 p0 W hr (by omega)
 have HNx : Hid (drawZ (rowK (smarkZ c zs) V) c.top c.heat s0 p0 = nextZ c zs s0 p0) := by unfold Hid nextZ; rw [hV]
 rw [HNx.out] at HDr
 clear ha hm hmp hV HNx hp
 generalize rowK (smarkZ c zs) V = ms at *
 generalize nextZ c zs s0 p0 = td at *
 obtain ⟨s, v, d, l, tt, h⟩ := c
 unfold CfV at hC
 simp only at hC HDr ⊢
 go_enter Tryz.func149, Tryz.ntmps149
 go_wp2_with fail
 refine hC.mono ?_
 rintro e w1 ⟨rfl, hb⟩
 obtain ⟨wA, hwA⟩ : ∃ wA, wA = w1.alloc (.cells #[.int .u64 s, .int .i64 v, .int .i64 d, .int .i64 l, .int .i64 tt, .int .i64 h] 24) := ⟨_, rfl⟩
 have hB1 : Below w1.heap.size w1 wA := by rw [hwA]; exact (Below.refl _ _).alloc (Nat.le_refl _) _
 have HBA := hid (hb.trans (hB1.mono hb.size))
 have HK := hid fun (W : World) (hbW : Below wA.heap.size wA W) => Cf_cells (c := ⟨s, v, d, l, tt, h⟩) (block_below (show wA.heap[w1.heap.size]? = some (.cells (CfV ⟨s, v, d, l, tt, h⟩) 24 (0, 0)) by rw [hwA]; exact heap_alloc_new w1 _) hbW)
 simp only at HK
 have HX : Hid (∀ W : World, Below wA.heap.size wA W → Below w.heap.size w W) := fun W hW => HBA.out.trans (hW.mono HBA.out.size)
 have HV : Hid (Below wA.heap.size wA wA.drew) := (Below.refl _ _).drew
 clear hC hb hB1 HBA
 go_wp2_with fail
 rw [← hwA]
 clear hwA
 go_region_held3 (fun W : World => W.cell? ⟨w1.heap.size, 0, none⟩ = some (.int .u64 s) ∧ W.cell? ⟨w1.heap.size, 1, none⟩ = some (.int .i64 v) ∧ W.cell? ⟨w1.heap.size, 2, none⟩ = some (.int .i64 d) ∧ W.cell? ⟨w1.heap.size, 3, none⟩ = some (.int .i64 l) ∧ W.cell? ⟨w1.heap.size, 4, none⟩ = some (.int .i64 tt) ∧ W.cell? ⟨w1.heap.size, 5, none⟩ = some (.int .i64 h)) (first | (with_reducible exact HK.out _ (Below.refl _ _)) | (with_reducible exact HK.out _ HV.out))
  (first
   | (go_at_call 176; (with_reducible refine (HMk.out _ (HX.out _ HV.out)).mono ?_); rintro e y1 ⟨g1, q1, rfl, ho, hb⟩; replace HV := hid (HV.out.trans (hb.mono HV.out.size)); have HR1 := hid ho.reads; clear hb ho)
   | (go_at_call 175; (with_reducible refine (HDr.out _ _ _ HR1.out).mono ?_); rintro e y2 ⟨rfl, hb⟩; replace HV := hid (HV.out.trans (hb.mono HV.out.size)); clear hb))
 all_goals
  go_wp2_with fail
  go_ret
  exact ⟨rfl, HX.out _ HV.out⟩
end Go.Proofs.YtjgggialnegddaaGreat
