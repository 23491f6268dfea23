/-
  The texts SaMath, SaDraws, RTops, EnW2 of this proof.
-/
import Derived.Test.YtjgggialnegddaaGreatPr10
import Derived.Test.YtjgggialnegddaaGreatPr24
import Derived.Test.YtjgggialnegddaaGreatPr01
import Derived.Test.YtjgggialnegddaaGreatPr25
import Derived.Deep.QuietTactic
import Derived.BigQuiet
import Derived.Test.YtjgggialnegddaaGreatPr12
set_option linter.unusedVariables false
set_option maxRecDepth 1000000
namespace Go.Proofs.YtjgggialnegddaaGreat
open Go.RowKit
noncomputable def the (P : Int → Prop) : Int := open Classical in if h : ∃ t, P t then h.choose else 0
theorem the_eq {P : Int → Prop} {t : Int} (h : P t) (one : ∀ a b, P a → P b → a = b) : the P = t := by
 unfold the
 rw [dif_pos ⟨t, h⟩]
 exact one _ _ (Exists.choose_spec ⟨t, h⟩) h
structure FirstAt (ws : List Int) (n : Nat) (d : Int) (k : Nat) : Prop where
 lt : k < n
 up : d < sumK ws (k + 1)
 low : ∀ j, j < k → sumK ws (j + 1) ≤ d
theorem FirstAt.one {ws : List Int} {n : Nat} {d : Int} {k k' : Nat} (h : FirstAt ws n d k) (h' : FirstAt ws n d k') : k = k' := by
 rcases Nat.lt_trichotomy k k' with hl | rfl | hl
 ·have := h'.low k hl; have := h.up; omega
 ·rfl
 ·have := h.low k' hl; have := h'.up; omega
theorem first_no {ws : List Int} {n : Nat} {d : Int} (d0 : 0 ≤ d) (hd : d < sumK ws n) (h : ∀ j, j < n → sumK ws (j + 1) ≤ d) : False := by
 rcases n with _ | n
 ·simp only [sumK] at hd; omega
 ·have := h n (by omega); omega
def cntZ (zs : List Int) (heat p : Int) : Int := divZ (mulZ (zs[p.toNat]?.getD 0) (fromZ 4)) (fromZ heat)
def cntL (zs : List Int) (heat : Int) (ps : List Int) : List Int := ps.map (cntZ zs heat)
def wtL (zs : List Int) (heat : Int) (ps : List Int) : List Int := softL (cntL zs heat ps)
theorem cntL_len (zs : List Int) (heat : Int) (ps : List Int) : (cntL zs heat ps).length = ps.length := by simp [cntL]
def BestOf (zs : List Int) (t : Int) : Prop := (zs = [] ∧ t = -1) ∨ (0 < zs.length ∧ TopOf zs zs.length 1 [t])
theorem BestOf.one {zs : List Int} : ∀ a b, BestOf zs a → BestOf zs b → a = b := by
 intro a b h h'
 rcases h with ⟨h1, h2⟩ | ⟨h1, h2⟩ <;> rcases h' with ⟨k1, k2⟩ | ⟨k1, k2⟩
 ·omega
 ·rw [h1] at k1; simp at k1
 ·rw [k1] at h1; simp at h1
 ·have := h2.one k2; simpa using this
def mx1 (t : Int) : Int := max t 1
def DrawOf (zs : List Int) (top heat s p t : Int) : Prop :=
 ((zs = [] ∨ heat < 1) ∧ BestOf zs t) ∨
 (0 < zs.length ∧ 1 ≤ heat ∧ ∃ (K k : Nat) (ps : List Int), Kof (mx1 top) zs.length K ∧ TopOf zs zs.length K ps ∧ FirstAt (wtL zs heat ps) K (belowZ s p (sumK (wtL zs heat ps) K)) k ∧ t = ps[k]?.getD 0)
theorem Kof.one {k : Int} {len K K' : Nat} (h : Kof k len K) (h' : Kof k len K') : K = K' := by unfold Kof at *; omega
theorem DrawOf.one {zs : List Int} {top heat s p : Int} : ∀ a b, DrawOf zs top heat s p a → DrawOf zs top heat s p b → a = b := by
 intro a b h h'
 rcases h with ⟨h1, h2⟩ | ⟨h1, h2, K, k, ps, h3, h4, h5, h6⟩ <;> rcases h' with ⟨k1, k2⟩ | ⟨k1, k2, K', k', ps', k3, k4, k5, k6⟩
 ·exact h2.one _ _ k2
 ·rcases h1 with rfl | h1
  ·simp at k1
  ·omega
 ·rcases k1 with rfl | k1
  ·simp at h1
  ·omega
 ·obtain rfl := h3.one k3
  obtain rfl := h4.one k4
  obtain rfl := h5.one k5
  rw [h6, k6]
noncomputable def drawZ (zs : List Int) (top heat s p : Int) : Int := the (DrawOf zs top heat s p)
theorem DrawOf.eq {zs : List Int} {top heat s p t : Int} (h : DrawOf zs top heat s p t) : drawZ zs top heat s p = t := the_eq h DrawOf.one
theorem TopOf.at {zs : List Int} {n K : Nat} {ps : List Int} (h : TopOf zs n K ps) {i : Nat} (hi : i < K) : ∃ m : Nat, ps[i]?.getD 0 = m ∧ m < n := by
 obtain ⟨qs, rest, rfl, hl, hf, hp, hr⟩ := h
 have hq : i < qs.length := by omega
 have hm : qs[i] ∈ marksK zs n := hp.subset (List.mem_append_left _ (List.getElem_mem hq))
 obtain ⟨m, h1, h2⟩ := marksK_mem.1 hm
 refine ⟨m, ?_, h1⟩
 simp [hq, h2]
theorem great_at (zs : List Int) (k : Nat) : 0 < k → ∃ i, i < k ∧ wi (zs[i]?.getD 0) = greatK zs k := by
 induction k with
 | zero => intro h; omega
 | succ k ih =>
  intro _
  by_cases h : k = 0 ∨ greatK zs k < wi (zs[k]?.getD 0)
  ·exact ⟨k, by omega, by rw [greatK, if_pos h]⟩
  ·obtain ⟨i, h1, h2⟩ := ih (by omega)
   exact ⟨i, by omega, by rw [greatK, if_neg h, h2]⟩
theorem exp_m1 : 32768 ≤ expZ (-1) := by decide +kernel
theorem soft_sum {zs : List Int} (h : 0 < zs.length) : 0 < sumK (softL zs) zs.length ∧ sumK (softL zs) zs.length ≤ 2147483647 := by
 have hP : Pos (softL zs) := fun i => ⟨(softL_bd zs i).1, by have := (softL_bd zs i).2; omega⟩
 refine ⟨?_, (sumK_bd hP _).2⟩
 obtain ⟨i, h1, h2⟩ := great_at zs zs.length h
 have hge := sumK_ge hP zs.length i h1
 have hp : 32768 ≤ (powL zs)[i]?.getD 0 := by
  rw [powL_at h1]
  refine Int.le_trans exp_m1 (expZ_le ?_)
  unfold addZ
  rw [h2]
  have hb := greatK_bd zs zs.length
  generalize greatK zs zs.length = g at *
  have : -1 ≤ g + wi (-g) := by unfold wi; split <;> (try split) <;> omega
  have := wi_le this
  rwa [show wi (-1) = -1 from rfl] at this
 have hs := sumK_ge (powL_pos zs) zs.length i h1
 have hb := sumK_bd (powL_pos zs) zs.length
 rw [softL_at h1] at hge
 have hv := div_val (powL_pos zs i).1 hs hb.2 (by omega)
 rw [hv.1] at hge
 have : 1 ≤ (powL zs)[i]?.getD 0 * 65536 / sumK (powL zs) zs.length := by
  refine (Int.le_ediv_iff_mul_le (by omega)).2 ?_
  omega
 omega
theorem wt_sum {zs : List Int} {heat : Int} {ps : List Int} {K : Nat} (h : ps.length = K) (hK : 0 < K) : 0 < sumK (wtL zs heat ps) K ∧ sumK (wtL zs heat ps) K ≤ 2147483647 := by
 have hl := cntL_len zs heat ps
 have := soft_sum (zs := cntL zs heat ps) (by omega)
 rw [hl, h] at this
 exact this
theorem below_sum {zs : List Int} {heat : Int} {ps : List Int} {K : Nat} (s p : Int) (h : ps.length = K) (hK : 0 < K) : 0 ≤ belowZ s p (sumK (wtL zs heat ps) K) ∧ belowZ s p (sumK (wtL zs heat ps) K) < sumK (wtL zs heat ps) K := below_bd s p (wt_sum h hK).1
theorem kof_pos {t : Int} {len K : Nat} (h : Kof (mx1 t) len K) (hl : 0 < len) : 0 < K := by unfold Kof mx1 at h; omega
theorem best_nil : BestOf [] (-1) := .inl ⟨rfl, rfl⟩
end Go.Proofs.YtjgggialnegddaaGreat
namespace Go.Proofs.YtjgggialnegddaaGreat
open Go.RowKit
theorem ssum_any (g len cap : Nat) (ws : List Int) (w : World) (ha : Reads .i64 w (some ⟨g, 0, none⟩) len cap ws) (hlen : len ≤ 1000) :
  Calls Tryz.prog 198 #[.slice (some ⟨g, 0, none⟩) len cap] w fun e w' => e = .returned (.int .i64 (sumK ws len)) ∧ w' = w := by
 have hroom := ha.room
 have hmost := ha.most
 have HA := hid ha
 clear ha
 go_enter Tryz.func198, Tryz.ntmps198
 go_wp2_with fail
 go_loopw [3, 8] (fun s i W => ∃ k : Nat, k ≤ len ∧ s = .int .i64 (sumK ws k) ∧ i = .int .i64 k ∧ Hid (W = w)) (fun _ i _ => len - (intOf i).toNat)
 case atStart => exact ⟨0, Nat.zero_le _, rfl, rfl, rfl⟩
 case round =>
  obtain ⟨k, hk, rfl, rfl, hW⟩ := hrel
  have hW := hW.out
  subst hW
  by_cases hlt : k < len
  ·have ck := HA.out.at hlt
   rw [Nat.zero_add] at ck
   have HSu : Hid (addZ (sumK ws k) (ws[k]?.getD 0) = sumK ws (k + 1)) := rfl
   generalize sumK ws k = s at *
   generalize ws[k]?.getD 0 = x at *
   go_wp2_with fail
   refine (add_any _ _ _).mono ?_
   rintro e w' ⟨rfl, rfl⟩
   rw [HSu.out]
   go_wp2_with fail
   go_round
   case rel => exact ⟨k + 1, by omega, rfl, by go_num, trivial⟩
   case measure => simp [intOf]; omega
  ·obtain rfl : k = len := by omega
   go_wp2
   go_ret
   exact ⟨rfl, rfl⟩
theorem fa1_any (x s d : Int) (B Bn : Nat) (w : World) (hB : w.heap[B]? = some (.cells #[.int .i64 s] 2 (0, 0))) (hn : w.heap[Bn]? = some (.cells #[.int .i64 d] 2 (0, 0))) (hne : Bn ≠ B) :
  Calls Tryz.prog 223 #[.int .i64 x, .pointer (some ⟨B, 0, none⟩), .pointer (some ⟨Bn, 0, none⟩)] w fun e w' => e = .returned (.bool (decide (d < addZ s x))) ∧ w'.heap[B]? = some (.cells #[.int .i64 (addZ s x)] 2 (0, 0)) ∧ But [B] w w' := by
 have cs := cell_of_one hB
 have fs := free_of_one hB
 have hO := one_setCell (u := .int .i64 (addZ s x)) hB
 have HO := hid hO
 have HBt : Hid (But [B] w (w.setCell ⟨B, 0, none⟩ (.int .i64 (addZ s x)))) := (But.refl _ _).set (p := ⟨B, 0, none⟩) (List.mem_singleton.2 rfl) _
 have cs2 := cell_of_one hO
 have cn2 := cell_of_one (HBt.out.one hn (by simpa using hne))
 clear hB hn hO
 go_enter Tryz.func223, Tryz.ntmps223
 go_wp2_with fail
 refine (add_any _ _ _).mono ?_
 rintro e w' ⟨rfl, rfl⟩
 go_wp2
 go_ret
 exact ⟨rfl, HO.out, HBt.out⟩
structure FaAt (w : World) (d s : Int) (W : World) : Prop where
 old : Below w.heap.size w W
 num : W.heap[w.heap.size]? = some (.cells #[.int .i64 d] 2 (0, 0))
 var : W.heap[w.heap.size + 1]? = some (.cells #[.int .i64 s] 2 (0, 0))
theorem FaAt.new (w : World) (d : Int) : FaAt w d 0 ((w.alloc (.cells #[.int .i64 d] 2)).alloc (.cells #[.int .i64 0] 2)) := by
 refine ⟨((Below.refl _ _).alloc (Nat.le_refl _) _).alloc (by simp) _, ?_, ?_⟩
 ·rw [Below.heap_alloc _ _ _ (by simp)]; exact heap_alloc_new w _
 ·have := heap_alloc_new (w.alloc (.cells #[.int .i64 d] 2)) (.cells #[.int .i64 0] 2)
  simpa using this
theorem fIndex_any (g len cap : Nat) (ws : List Int) (d : Int) (w W : World) (ha : Reads .i64 w (some ⟨g, 0, none⟩) len cap ws) (hlen : len ≤ 1000) (d0 : 0 ≤ d) (hd : d < sumK ws len) (h0 : FaAt w d 0 W) :
  Calls Tryz.prog 222 #[.slice (some ⟨g, 0, none⟩) len cap, .func (.func 223) #[] #[.pointer (some ⟨w.heap.size + 1, 0, none⟩), .pointer (some ⟨w.heap.size, 0, none⟩)]] W fun e w' => ∃ k : Nat, e = .returned (.int .i64 k) ∧ FirstAt ws len d k ∧ Below w.heap.size w w' := by
 have hroom := ha.room
 have hmost := ha.most
 have HA := hid ha
 have HD := hid hd
 have HD0 := hid d0
 have H0 : Hid (FaAt w d (sumK ws 0) W) := h0
 have hEn := enters_of Tryz.func223 (by kernel_rfl) rfl
 clear ha hd h0 d0
 go_enter Tryz.func222, Tryz.ntmps222
 go_wp2_with fail
 go_loopw [8] (fun i W => ∃ k : Nat, k ≤ len ∧ i = .int .i64 k ∧ Hid (FaAt w d (sumK ws k) W) ∧ Hid (∀ j, j < k → sumK ws (j + 1) ≤ d)) (fun i _ => len - (intOf i).toNat)
 case atStart => exact ⟨0, Nat.zero_le _, rfl, H0, fun j hj => absurd hj (by omega)⟩
 case round =>
  obtain ⟨k, hk, rfl, HF, HL⟩ := hrel
  clear H0
  rename World => wr
  by_cases hlt : k < len
  ·have ck := (HA.out.below HF.out.old).at hlt
   rw [Nat.zero_add] at ck
   have HSu : Hid (addZ (sumK ws k) (ws[k]?.getD 0) = sumK ws (k + 1)) := rfl
   have hC := fa1_any (ws[k]?.getD 0) (sumK ws k) d _ _ wr HF.out.var HF.out.num (by omega)
   rw [HSu.out] at hC
   have HN : Hid (∀ W', But [w.heap.size + 1] wr W' → W'.heap[w.heap.size + 1]? = some (.cells #[.int .i64 (sumK ws (k + 1))] 2 (0, 0)) → FaAt w d (sumK ws (k + 1)) W') := fun W' hb hv =>
    ⟨HF.out.old.trans (hb.to (fun s hs => by rw [List.mem_singleton.1 hs]; omega) HF.out.old.size), hb.one HF.out.num (by simp), hv⟩
   clear HF HSu
   generalize ws[k]?.getD 0 = x at *
   by_cases hu : d < sumK ws (k + 1)
   ·have HE : Hid (FirstAt ws len d k) := ⟨hlt, hu, HL.out⟩
    rw [decide_eq_true hu] at hC
    clear HA HD HL hu
    go_wp2_with fail
    refine hC.mono ?_
    rintro e w2 ⟨rfl, h2, hb⟩
    have HB := hid (HN.out _ hb h2).old
    clear hC h2 hb HN
    go_wp2
    go_ret
    exact ⟨k, rfl, HE.out, HB.out⟩
   ·rw [decide_eq_false hu] at hC
    have HL2 : Hid (∀ j, j < k + 1 → sumK ws (j + 1) ≤ d) := fun j hj => by
     rcases (by omega : j < k ∨ j = k) with h | rfl
     ·exact HL.out j h
     ·omega
    clear HL hu
    go_wp2_with fail
    refine hC.mono ?_
    rintro e w2 ⟨rfl, h2, hb⟩
    have HF2 := hid (HN.out _ hb h2)
    clear hC h2 hb HN
    go_wp2_with fail
    go_round
    case rel => exact ⟨k + 1, by omega, by go_num, HF2, HL2⟩
    case measure => simp [intOf]; omega
  ·obtain rfl : k = len := by omega
   exact (first_no HD0.out HD.out HL.out).elim
theorem above_any (g len cap : Nat) (ws : List Int) (d : Int) (w : World) (ha : Reads .i64 w (some ⟨g, 0, none⟩) len cap ws) (hlen : len ≤ 1000) (d0 : 0 ≤ d) (hd : d < sumK ws len) :
  Calls Tryz.prog 199 #[.slice (some ⟨g, 0, none⟩) len cap, .int .i64 d] w fun e w' => ∃ k : Nat, e = .returned (.int .i64 k) ∧ FirstAt ws len d k ∧ Below w.heap.size w w' := by
 have HC := hid (fIndex_any g len cap ws d w _ ha hlen d0 hd (FaAt.new w d))
 clear ha d0 hd
 go_enter Tryz.func199, Tryz.ntmps199
 go_wp2_with fail
 refine HC.out.mono ?_
 rintro e w2 ⟨k, rfl, hF, hb⟩
 have HE := hid hF
 have HB := hid hb
 clear HC hF hb
 go_wp2
 go_ret
 exact ⟨k, rfl, HE.out, HB.out⟩
theorem count1_any (a : Option Addr) (len cap m : Nat) (zs : List Int) (heat : Int) (B1 B2 : Nat) (w : World) (ha : Reads .i64 w a len cap zs) (hlen : len ≤ 1000) (hm : m < len)
  (h1 : w.heap[B1]? = some (.cells #[.slice a len cap] 131 (0, 0))) (h2 : w.heap[B2]? = some (.cells #[.int .i64 heat] 3 (0, 0))) :
  Calls Tryz.prog 193 #[.int .i64 m, .pointer (some ⟨B1, 0, none⟩), .pointer (some ⟨B2, 0, none⟩)] w fun e w' => e = .returned (.int .i64 (cntZ zs heat m)) ∧ Below w.heap.size w w' := by
 have c1 := cell_of_one h1
 have c2 := cell_of_one h2
 have hroom := ha.room
 have hmost := ha.most
 obtain ⟨b, o, rfl, cm⟩ := ha.cell m hm
 have HE : Hid (divZ (mulZ (zs[m]?.getD 0) (fromZ 4)) (fromZ heat) = cntZ zs heat m) := by unfold Hid cntZ; rw [Int.toNat_natCast]
 have q1 : (m : Int) < (len : Int) := by omega
 clear ha h1 h2
 generalize zs[m]?.getD 0 = x at *
 go_enter Tryz.func193, Tryz.ntmps193
 go_wp2_with fail
 go_quiet (first | (go_at_call 196; exact Calls.quiet_of_same (from_any _ _)) | (go_at_call 195; exact Calls.quiet_of_same (mul_any _ _ _)) | (go_at_call 194; exact Calls.quiet_of_same (div_any _ _ _)))
 go_wp2
 go_ret
 exact ⟨ret_int HE.out, ⟨rfl, rfl, rfl, Nat.le_refl _, fun _ _ => rfl⟩⟩
end Go.Proofs.YtjgggialnegddaaGreat
namespace Go.Proofs.YtjgggialnegddaaGreat
open Go.RowKit
structure SelAt (w : World) (zs : List Int) (len : Nat) (u : Value) (bs : List Bool) (qs : List Mk) (W : World) : Prop where
 old : Below w.heap.size w W
 sel : Sel zs len bs qs
 met : OwnB w.heap.size len bs W
 out : W.ownsRow (w.heap.size + 1) 3 1 u qs.length ((qs.map Prod.fst).map (Value.int .i64))
 size : w.heap.size < W.heap.size
theorem Reads.one_set {k : IntKind} (w : World) (p : Addr) (v : Value) (x : Int) (t : TypeId) : Reads k ((w.setCell p v).alloc (.cells #[.int k x] t)) (some ⟨w.heap.size, 0, none⟩) 1 1 [x] := by
 have h := Reads.one (k := k) (w.setCell p v) x t
 have e : (w.setCell p v).heap.size = w.heap.size := by simp [World.setCell]
 rw [e] at h
 exact h
theorem SelAt.drewN {w : World} {zs : List Int} {len : Nat} {u : Value} {bs : List Bool} {qs : List Mk} {W : World} (h : SelAt w zs len u bs qs W) (n : Nat) : SelAt w zs len u bs qs (W.drewN n) := ⟨h.old.trans ⟨rfl, rfl, rfl, Nat.le_refl _, fun _ _ => rfl⟩, h.sel, h.met, h.out, h.size⟩
def TopGives (w : World) (zs : List Int) (len K : Nat) (e : Ending) (w' : World) : Prop := ∃ ad c ps, e = .returned (.slice ad K c) ∧ Reads .i64 w' ad K c ps ∧ TopOf zs len K ps ∧ Below w.heap.size w w'
set_option maxHeartbeats 4000000 in
theorem rvtop_any (a : Option Addr) (len cap K : Nat) (k : Int) (zs : List Int) (w : World) (ha : Reads .i64 w a len cap zs) (hlen : len ≤ 1000) (hk : Kof k len K) (hK : K ≤ len) :
  Calls Tryz.prog 145 #[.slice a len cap, .int .i64 k] w fun e w' => TopGives w zs len K e w' := by
 obtain ⟨i0, hi, hz0, hz1, hz2⟩ := info_parts Tryz.info3
 have hC := rcut_any a len cap zs w ha hlen
 have HA := hid ha
 have hmk : ∀ W : World, (Instr.makeSlice 238 (.int .i64 (len : Int)) (.int .i64 (len : Int))).run Tryz.prog W = .ok (.slice (some ⟨W.heap.size, 0, none⟩) len len) (W.alloc (.cells (madeCells #[.bool false] len) 4)) := fun W => make_bools W len (by omega)
 have HS0 : Hid (SelAt w zs len (.slice none 0 0) (List.replicate len false) [] (w.alloc (.cells (madeCells #[.bool false] len) 4))) :=
  ⟨(Below.refl _ _).alloc (Nat.le_refl _) _, Sel.start zs len, own_bools w len (by omega), World.ownsRow_nil _ _ _ _, by simp⟩
 have HM : ∀ j : Nat, j < K → (j : Int) < k ∧ (j : Int) < (len : Int) := by unfold Kof at hk; intro j hj; omega
 have HX : ¬ (K : Int) < k ∨ ((K : Int) < k ∧ ¬ (K : Int) < (len : Int)) := by unfold Kof at hk; omega
 have r1 := ha.room
 have m1 := ha.most
 clear ha hk
 go_enter Tryz.func145, Tryz.ntmps145
 go_wp2_with fail
 refine hC.mono ?_
 rintro e w' ⟨rfl, rfl⟩
 clear hC
 rename World => w
 go_wp2_with fail
 clear hmk
 go_loopw [5, 7] (fun u i W => ∃ (j : Nat) (bs : List Bool) (qs : List Mk), j ≤ K ∧ i = .int .i64 j ∧ Hid (qs.length = j) ∧ Hid (SelAt w zs len u bs qs W)) (fun _ i _ => K - (intOf i).toNat)
 case atStart => exact ⟨0, _, [], Nat.zero_le _, rfl, rfl, HS0⟩
 case round =>
  obtain ⟨j, bs, qs, hj, rfl, HQ, HS⟩ := hrel
  clear HS0
  rename World => wr
  by_cases hlt : j < K
  ·obtain ⟨l1, l2⟩ := HM j hlt
   clear HX HM
   go_wp2_with fail
   go_loopw [8, 9] (fun b i W => ∃ (n : Nat) (bb : Int), n ≤ len ∧ b = .int .i64 bb ∧ i = .int .i64 n ∧ Hid (BestAt zs bs n bb) ∧ Hid (SelAt w zs len u5 bs qs W)) (fun _ i _ => len - (intOf i).toNat)
   case atStart => exact ⟨0, -1, Nat.zero_le _, rfl, rfl, BestAt.start _ _, HS⟩
   case round =>
    obtain ⟨n, bb, hn, rfl, rfl, HBe, HSn⟩ := hrel
    clear HS
    rename World => wn
    by_cases hnl : n < len
    ·obtain ⟨b1, o1, rfl, c1⟩ := (HA.out.below HSn.out.old).cell n hnl
     have cm := HSn.out.met.cell hnl
     have q1 : (n : Int) < (len : Int) := by omega
     cases hmt : mt bs n with
     | true =>
      rw [hmt] at cm
      have HBn : Hid (BestAt zs bs (n + 1) bb) := HBe.out.met hmt
      clear HBe hmt HA
      go_wp2_with fail
      go_quiet (fail)
      go_wp2_with fail
      go_round
      case rel => exact ⟨n + 1, bb, by omega, rfl, by go_num, HBn, HSn.out.drewN _⟩
      case measure => simp [intOf]; omega
     | false =>
      rw [hmt] at cm
      rcases HBe.out with ⟨hb1, hall⟩ | ⟨B, hb1, hBn, hmB, hge⟩
      ·subst hb1
       have HBn : Hid (BestAt zs bs (n + 1) n) := HBe.out.first hmt
       clear HBe hmt HA hall
       go_wp2_with fail
       go_quiet ((go_at_call 141; exact Calls.quiet_of_same (rwithin_any _ _)))
       go_wp2_with fail
       go_round
       case rel => exact ⟨n + 1, n, by omega, rfl, by go_num, HBn, HSn.out.drewN _⟩
       case measure => simp [intOf]; omega
      ·subst hb1
       have c2 := (HA.out.below HSn.out.old).at (i := B) (by omega)
       have g0 : ¬ (B : Int) < 0 := by omega
       have g1 : decide ((B : Int) < 0) = false := decide_eq_false g0
       have q2 : (B : Int) < (len : Int) := by omega
       have q3 : B < len := by omega
       by_cases hg : wi (zs[B]?.getD 0) < wi (zs[n]?.getD 0)
       ·have HBn : Hid (BestAt zs bs (n + 1) n) := HBe.out.more hmt hg
        clear HBe hmt HA hge hmB
        generalize zs[B]?.getD 0 = y at *
        generalize zs[n]?.getD 0 = x at *
        go_wp2_with fail
        go_quiet ((go_at_call 141; exact Calls.quiet_of_same (rwithin_any _ _)))
        go_wp2_with fail
        go_round
        case rel => exact ⟨n + 1, n, by omega, rfl, by go_num, HBn, HSn.out.drewN _⟩
        case measure => simp [intOf]; omega
       ·have HBn : Hid (BestAt zs bs (n + 1) B) := HBe.out.less hg
        clear HBe hmt HA hge hmB
        generalize zs[B]?.getD 0 = y at *
        generalize zs[n]?.getD 0 = x at *
        go_wp2_with fail
        go_quiet ((go_at_call 141; exact Calls.quiet_of_same (rwithin_any _ _)))
        go_wp2_with fail
        go_round
        case rel => exact ⟨n + 1, B, by omega, rfl, by go_num, HBn, HSn.out.drewN _⟩
        case measure => simp [intOf]; omega
    ·obtain rfl : n = len := by omega
     obtain ⟨B, hb1, hBn, hmB, hge⟩ := HSn.out.sel.best (by rw [HQ.out]; omega) HBe.out
     subst hb1
     have cm := HSn.out.met.cell hBn
     have fm := HSn.out.met.frozen B
     have q2 : (B : Int) < (n : Int) := by omega
     have HB1 : Hid (Below w.heap.size w (wn.setCell ⟨w.heap.size, B, none⟩ (.bool true))) := HSn.out.old.setCell (Nat.le_refl _) _
     have HO1 : Hid ((wn.setCell ⟨w.heap.size, B, none⟩ (.bool true)).ownsRow (w.heap.size + 1) 3 1 u5 qs.length ((qs.map Prod.fst).map (Value.int .i64))) := ownsRow_setCell_below HSn.out.out (by show w.heap.size < w.heap.size + 1; omega) _
     have HM1 : Hid (OwnB w.heap.size n (bs.set B true) (wn.setCell ⟨w.heap.size, B, none⟩ (.bool true))) := HSn.out.met.set B true
     have HSel : Hid (Sel zs n (bs.set B true) (qs ++ [mkP zs B])) := HSn.out.sel.step hBn hmB hge
     have HZ : Hid (w.heap.size + 1 ≤ (wn.setCell ⟨w.heap.size, B, none⟩ (.bool true)).heap.size) := by have := HSn.out.size; unfold Hid; simp [World.setCell]; omega
     have hql : qs.length ≤ 1000 := by have := HQ.out; omega
     clear HBe hge hmB HA HSn
     go_wp2_with (at_builtin; refine append_any _ rfl (.tmp 58) (.tmp 60) 41 rfl (w.heap.size + 1) 3 i0 (.int .i64 0) 8 Tryz.underlying41 hi hz0 hz1 hz2 rfl .i64 _ qs.length (qs.map Prod.fst) rfl (HO1.out.alloc _) _ 1 1 [(B : Int)] rfl (Reads.one_set _ _ _ _ _) (by omega) (by omega) (Nat.le_trans HZ.out (by simp)) ?_; intro v' w3 hO3 hb3)
     have hb4 : Below (w.heap.size + 1) (wn.setCell ⟨w.heap.size, B, none⟩ (.bool true)) w3 := ((Below.refl _ _).alloc HZ.out _).trans hb3
     have HN : Hid (SelAt w zs n v' (bs.set B true) (qs ++ [mkP zs B]) w3) := by
      refine ⟨HB1.out.trans (hb4.mono (by omega)), HSel.out, HM1.out.below hb4 (by omega), ?_, Nat.lt_of_lt_of_le (Nat.lt_of_succ_le HZ.out) hb4.size⟩
      rw [List.length_append, List.map_append]
      exact hO3
     have HQ2 : Hid ((qs ++ [mkP zs B]).length = j + 1) := by unfold Hid; rw [List.length_append, HQ.out]; rfl
     clear hO3 hb3 hb4 HB1 HO1 HM1 HSel HZ
     go_round
     case rel => exact ⟨j + 1, _, _, by omega, by go_num, HQ2, HN⟩
     case measure => simp [intOf]; omega
  ·obtain rfl : j = K := by omega
   clear HM
   have HE : Hid (∃ ad c, u5 = .slice ad j c ∧ Reads .i64 wr ad j c (qs.map Prod.fst) ∧ TopOf zs len j (qs.map Prod.fst) ∧ Below w.heap.size w wr) := by
    obtain ⟨ad, c, e, hr⟩ := Reads.own (k := .i64) HS.out.out
    have hd := HS.out.sel.done
    rw [HQ.out] at e hr hd
    exact ⟨ad, c, e, hr, hd, HS.out.old⟩
   obtain ⟨ad, c, rfl, hr, hd, hb⟩ := HE.out
   have HR := hid hr
   have HD := hid hd
   have HB := hid hb
   clear hr hd hb HE HS HA
   rcases HX with hx | ⟨hx, hy⟩
   ·go_wp2
    go_ret
    exact ⟨_, _, _, rfl, HR.out, HD.out, HB.out⟩
   ·go_wp2
    go_ret
    exact ⟨_, _, _, rfl, HR.out, HD.out, HB.out⟩
end Go.Proofs.YtjgggialnegddaaGreat
namespace Go.Proofs.YtjgggialnegddaaGreat
open Go.RowKit Go.Maps
theorem step_app_eq {P : Program} {w : World} {ops : Array Oper} {o : Oper} {a : Act} {K : Act → World → Prop} {Q : Exit → Act → World → Prop} {E : Prop} (hgd : o.guard = none) (d : Tmp) (hd : o.dst = some d) (s x : Operand) (t : TypeId)
  (ho : o.op = .call { callee := .builtin .append, args := #[s, x], argTypes := #[t, t] }) (v1 v2 v' : Value) (w' : World) (hs : a.eval s = v1) (hx : a.eval x = v2) (hr : (Builtin.append_ #[t, t] o.type #[v1, v2]).run P w = .ok v' w') (h : K (a.put (some d) v') w') :
  if Region.wanted o (yielded ops a.tmps) = true then Oper.wp P o a w K Q else E := by
 have hw : Region.wanted o (yielded ops a.tmps) = true := by simp [Region.wanted, hgd]
 rw [if_pos hw]
 unfold Oper.wp execOp
 simp only [ho, resolve, invoke, builtin, Sem.run_bind, Sem.run_pure, Result.andThen_ok, List.map_toArray, List.map_cons, List.map_nil, hs, hx, hr]
 show K (a.put o.dst _) w'
 rw [hd]
 exact h
theorem Tryz.infoU64 : (Tryz.prog.info? 22).map (fun i => (i.zero, i.size, i.bytes)) = some (some (.int .u64 0), 1, 8) := by kernel_rfl
theorem UQ.reads {W : World} {v : Value} {ids : List Int} (h : UQ W v ids) : ∃ a cap, v = .slice a ids.length cap ∧ Reads .u64 W a ids.length cap ids := Reads.own (k := .u64) h
theorem run_uapp (w : World) (v : Value) (xs : List Int) (hown : UQ w v xs) (ao : Option Addr) (m c : Nat) (news : List Int) (hr : Reads .u64 w ao m c news) (hb : xs.length + m ≤ 100000) (ty : TypeId) :
  ∃ v' w', (Builtin.append_ #[59, 59] ty #[v, .slice ao m c]).run Tryz.prog w = .ok v' w' ∧ UQ w' v' (xs ++ news) ∧ w.grownBy w' v.ownBlock ∧ Moved w v v' := by
 obtain ⟨i0, hi, hz0, hz1, hz2⟩ := info_parts Tryz.infoU64
 have hnl : (news.map (Value.int .u64)).length = m * 1 := by simpa using hr.size
 have hbytes : (xs.length + m) * 8 ≤ 140737488355328 := by omega
 have hln : (xs ++ news).length = xs.length + m := by rw [List.length_append, hr.size]
 unfold UQ at *
 rw [hln]
 cases ao with
 | none =>
  obtain ⟨rfl, rfl⟩ := hr.bare rfl
  have hn : news = [] := List.eq_nil_of_length_eq_zero hr.size
  subst hn
  exact ⟨v, w, run_append_owned_none (P := Tryz.prog) w 0 59 ty 22 i0 1 Tryz.underlying59 hi v _ _ hown, by simpa using hown, World.grownBy.refl _ _, .inl rfl⟩
 | some ad =>
 rcases id hown.2 with ⟨rfl, h0⟩ | ⟨g, cap, cur, rfl, hbg, hg, hnc, hcm, hcs, htake⟩
 ·obtain rfl : xs = [] := List.eq_nil_of_length_eq_zero h0
  obtain ⟨v', w', h1, h2, h3, h4⟩ := run_append_own (P := Tryz.prog) w w.heap.size 59 ty 22 i0 (.int .u64 0) 1 8 Tryz.underlying59 hi hz0 hz1 hz2 rfl (by decide) (.slice none 0 0) 0 [] (World.ownsRow_nil _ _ _ _) ad m c (news.map (Value.int .u64)) hnl hr.news (ints_oneCell .u64 news) (by unfold maxLen; omega) (by simpa using hbytes) (Nat.le_refl _)
  refine ⟨v', w', h1, own_base (by simpa using h2) (Nat.zero_le _), h3, ?_⟩
  by_cases hm : m = 0
  ·left; rw [h4.2 ⟨rfl, hm⟩]
  ·exact moved_pos h2 (by omega)
 ·by_cases hroom : xs.length + m ≤ cap
  ·obtain ⟨w', h1, h2, h3⟩ := run_append_fits (P := Tryz.prog) w 0 59 ty 22 i0 1 Tryz.underlying59 hi hz1 g xs.length cap _ hown ad m c (news.map (Value.int .u64)) hnl hr.news (ints_oneCell .u64 news) hroom
   exact ⟨_, w', h1, by rw [List.map_append]; exact h2, h3, .inl rfl⟩
  ·obtain ⟨v', w', h1, h2, h3⟩ := run_append_arg_grows (P := Tryz.prog) w 59 ty 22 i0 (.int .u64 0) 1 8 Tryz.underlying59 hi hz0 hz1 hz2 rfl (by decide) ⟨g, 0, none⟩ xs.length cap (xs.map (Value.int .u64)) (by simp) (hown.cells (g := g) rfl) ad m c (news.map (Value.int .u64)) hnl hr.news (by omega) (by unfold maxLen; omega) hbytes
   refine ⟨v', w', h1, own_base (by rw [List.map_append]; exact h2) (Nat.zero_le _), ⟨h3.os, h3.tape, h3.output, h3.size, fun k hk _ => h3.block k hk (by simp)⟩, moved_pos h2 (by omega)⟩
theorem own_more {w : World} {base e m b cap : Nat} {xs : List Value} (h : w.ownsRow base e 1 (.slice (some ⟨b, 0, none⟩) m cap) m xs) {n : Nat} (h1 : m ≤ n) (h2 : n ≤ cap) : ∃ vs, w.ownsRow base e 1 (.slice (some ⟨b, 0, none⟩) n cap) n vs ∧ vs.take m = xs := by
 rcases h.2 with ⟨e, _⟩ | ⟨g, c, cur, e, h3, h4, h5, h6, h7, h8⟩
 ·cases e
 ·cases e
  refine ⟨cur.toList.take n, ⟨by rw [List.length_take, Array.length_toList]; omega, .inr ⟨b, cap, cur, rfl, h3, h4, h2, h6, h7, by rw [Nat.mul_one]⟩⟩, ?_⟩
  rw [← h8, List.take_take, Nat.min_eq_left h1, Nat.mul_one]
theorem ucut_from (b n cap k : Nat) (c2 : ¬ k = 0) (hk : k ≤ n) (hc : n ≤ cap) (hm : cap ≤ 9223372036854775807) : ∃ A : Addr, (∀ W : World,
  (Instr.sliceAt 59 (.slice (some ⟨b, 0, none⟩) n cap) (some (.int .i64 (k : Int))) none none).run Tryz.prog W = .ok (.slice (some A) (n - k) (cap - k)) W) ∧ (k < n → A = ⟨b, k, none⟩) := by
 obtain ⟨j0, ji, jz0, jz1, jz2⟩ := info_parts Tryz.infoU64
 have h1 : ∀ W : World, (Instr.sliceBound (.int .i64 (k : Int)) n .sliceB).run Tryz.prog W = .ok k W := fun W => by
  rw [run_sliceBound W .i64 (k : Int) n _ (by omega) (by omega)]; congr 1
 refine ⟨if cap = k then ⟨b, 0, none⟩ else ⟨b, k, none⟩, fun W => ?_, fun h => by rw [if_neg (by omega)]⟩
 by_cases c1 : cap = k
 ·subst c1
  simp [Instr.sliceAt, Instr.slice, run_underlying Tryz.underlying59, Instr.sliceBounds, h1, sizeOf, typeInfo, ji, jz1, Addr.add]
 ·simp [Instr.sliceAt, Instr.slice, run_underlying Tryz.underlying59, Instr.sliceBounds, h1, sizeOf, typeInfo, ji, jz1, Addr.add, c1, c2]
theorem ucut_mid (b m n cap : Nat) (hk : m < n) (hc : n ≤ cap) (hm : cap ≤ 9223372036854775807) (W : World) :
  (Instr.sliceAt 59 (.slice (some ⟨b, 0, none⟩) m cap) (some (.int .i64 (m : Int))) (some (.int .i64 (n : Int))) none).run Tryz.prog W = .ok (.slice (some ⟨b, m, none⟩) (n - m) (cap - m)) W := by
 obtain ⟨j0, ji, jz0, jz1, jz2⟩ := info_parts Tryz.infoU64
 have h1 : ∀ W : World, (Instr.sliceBound (.int .i64 (m : Int)) n .sliceB).run Tryz.prog W = .ok m W := fun W => by
  rw [run_sliceBound W .i64 (m : Int) n _ (by omega) (by omega)]; congr 1
 have h2 : ∀ W : World, (Instr.sliceBound (.int .i64 (n : Int)) cap .sliceAcap).run Tryz.prog W = .ok n W := fun W => by
  rw [run_sliceBound W .i64 (n : Int) cap _ (by omega) (by omega)]; congr 1
 have h3 : ¬ cap = m := by omega
 simp [Instr.sliceAt, Instr.slice, run_underlying Tryz.underlying59, Instr.sliceBounds, h1, h2, sizeOf, typeInfo, ji, jz1, Addr.add, h3]
 intro h4
 exact h4.symm
theorem ucut_to (a : Option Addr) (n cap m : Nat) (hm : m ≤ cap) (hc : cap ≤ 9223372036854775807) (W : World) :
  (Instr.sliceAt 59 (.slice a n cap) none (some (.int .i64 (m : Int))) none).run Tryz.prog W = .ok (.slice a m cap) W := by
 obtain ⟨j0, ji, jz0, jz1, jz2⟩ := info_parts Tryz.infoU64
 have h2 : ∀ W : World, (Instr.sliceBound (.int .i64 (m : Int)) cap .sliceAcap).run Tryz.prog W = .ok m W := fun W => by
  rw [run_sliceBound W .i64 (m : Int) cap _ (by omega) (by omega)]; congr 1
 cases a with
 | none => simp [Instr.sliceAt, Instr.slice, run_underlying Tryz.underlying59, Instr.sliceBounds, h2, sizeOf, typeInfo, ji, Addr.add]
 | some a => simp [Instr.sliceAt, Instr.slice, run_underlying Tryz.underlying59, Instr.sliceBounds, h2, sizeOf, typeInfo, ji, Addr.add]
theorem udrop_any (v : Value) (ids : List Int) (k : Nat) (w : World) (h : UQ w v ids) (hk : k ≤ ids.length) (hn : ids.length ≤ 1000) :
  Calls Tryz.prog 54 #[v, .int .i64 0, .int .i64 k] w fun e w' => ∃ v', e = .returned v' ∧ UQ w' v' (ids.drop k) ∧ v'.ownBlock = v.ownBlock ∧ Fb (fun x => v.ownBlock = some x) w w' := by
 obtain ⟨a, cap, rfl, hr⟩ := h.reads
 have r1 := hr.room
 have m1 := hr.most
 obtain ⟨n, hnn⟩ : ∃ n, ids.length = n := ⟨_, rfl⟩
 by_cases h0 : k = 0
 ·subst h0
  have HR : Hid (UQ w (.slice a ids.length cap) (ids.drop 0)) := h
  rw [hnn] at r1 hk HR ⊢
  clear h hr hnn
  go_enter Tryz.func54, Tryz.ntmps54
  go_wp2
  go_ret
  exact ⟨_, rfl, HR.out, rfl, Fb.refl _ _⟩
 ·obtain ⟨b, rfl⟩ : ∃ b, a = some ⟨b, 0, none⟩ := by
   rcases id h.2 with ⟨e, h0⟩ | ⟨b, c, cur, e, _⟩
   ·omega
   ·cases e; exact ⟨b, rfl⟩
  obtain ⟨i0, hi, hz0, hz1, hz2⟩ := info_parts Tryz.infoU64
  have hO0 : w.drew.ownsRow 0 22 1 (.slice (some ⟨b, 0, none⟩) 0 cap) 0 [] := own_take h (Nat.zero_le _)
  unfold UQ at h
  rw [hnn] at h hr r1 hk hn
  obtain ⟨A, hs2, hA⟩ := ucut_from b n cap k h0 hk r1 m1
  have hnews : ∀ j u, ((ids.drop k).map (Value.int .u64))[j]? = some u → w.drew.cell? (A.add j) = some u := fun j u hu => by
   have hj : j < n - k := by
    have := (List.getElem?_eq_some_iff.1 hu).1
    rw [List.length_map, List.length_drop, hnn] at this
    exact this
   rw [hA (by omega)]
   rw [List.getElem?_map, List.getElem?_drop] at hu
   obtain ⟨b', off', e1, e2⟩ := hr.cell (k + j) (by omega)
   cases e1
   rw [Addr.add_lit]
   rw [Nat.zero_add] at e2
   show w.cell? ⟨b, k + j, none⟩ = some u
   rw [e2]
   cases hx : ids[k + j]? with
   | none => rw [hx] at hu; cases hu
   | some y => rw [hx] at hu; simpa using hu
  have hlen : ((ids.drop k).map (Value.int .u64)).length = (n - k) * 1 := by rw [List.length_map, List.length_drop, hnn, Nat.mul_one]
  obtain ⟨w1, e1, hO1, hg1⟩ := run_append_fits (P := Tryz.prog) w.drew 0 59 59 22 i0 1 Tryz.underlying59 hi hz1 b 0 cap [] hO0 A (n - k) (cap - k) _ hlen hnews (ints_oneCell .u64 _) (by omega)
  rw [Nat.zero_add] at e1 hO1
  rw [List.nil_append] at hO1
  obtain ⟨vs, hO2, hv2⟩ := own_more hO1 (n := n) (by omega) (by omega)
  obtain ⟨w2, e2, hO3, hf2⟩ := row_clear hO2 (i := n - k) (by omega) (cap - (n - k)) 0
  rw [hv2] at hO3
  have hs3 := ucut_mid b (n - k) n cap (by omega) r1 m1
  have HR : Hid (UQ w2 (.slice (some ⟨b, 0, none⟩) (n - k) cap) (ids.drop k)) := by
   unfold Hid UQ
   rw [List.length_drop, hnn]
   exact hO3
  have HF : Hid (Fb (fun x => some b = some x) w w2) := by
   refine Fb.trans (G := at1 b) ?_ hf2 fun x hx => .inl (by rw [show x = b from hx])
   exact ⟨hg1.os, hg1.tape, hg1.output, hg1.size, fun x hx hn => hg1.block x hx fun e => hn e.symm⟩
  have q1 : ¬ (0 : Int) = (k : Int) := by omega
  have q2 : (k : Int) ≤ (n : Int) := by omega
  rw [hnn]
  have HE1 := hid e1
  clear h hr hO0 hnews hlen hO1 hg1 hO2 hv2 hO3 hf2 hA e1 hnn
  generalize n - k = d at *
  generalize cap - k = c2 at *
  generalize cap - d = c3 at *
  generalize n - d = c4 at *
  go_enter Tryz.func54, Tryz.ntmps54
  go_wp2_with fail
  go_region_law (refine step_app_eq (by rfl) 26 (by rfl) (.tmp 22) (.tmp 25) 59 (by rfl) _ _ _ _ (by simp [Act.eval, Act.put]) (by simp [Act.eval, Act.put]) HE1.out ?_)
  go_wp2
  go_ret
  exact ⟨_, rfl, HR.out, rfl, HF.out⟩
theorem uclone_any (v : Value) (ids : List Int) (w : World) (h : UQ w v ids) (hn : ids.length ≤ 1000) :
  Calls Tryz.prog 38 #[v] w fun e w' => ∃ a cap, e = .returned (.slice a ids.length cap) ∧ Reads .u64 w' a ids.length cap ids ∧ (∀ p, a = some p → w.heap.size ≤ p.block ∧ ∃ cur, w'.heap[p.block]? = some (.cells cur 22 (0, 0))) ∧ Below w.heap.size w w' := by
 obtain ⟨i0, hi, hz0, hz1, hz2⟩ := info_parts Tryz.infoU64
 obtain ⟨a, cap, rfl, ha⟩ := h.reads
 generalize hnn : ids.length = n at *
 cases a with
 | none =>
  obtain ⟨rfl, rfl⟩ := ha.bare rfl
  obtain rfl : ids = [] := List.eq_nil_of_length_eq_zero ha.size
  have heq : ∀ W : World, (binOp .eql 59 (.slice none 0 0) (.slice none 0 0)).run Tryz.prog W = .ok (.bool true) W := fun W => Lib.run_eql_slice_nil W _ _ none 0 0 0 0 Tryz.underlying59
  clear ha h hnn
  go_enter Tryz.func38, Tryz.ntmps38
  go_wp2
  go_ret
  exact ⟨_, _, rfl, Reads.nil _ _, (fun p hp => by cases hp), Below.refl _ _⟩
 | some ad =>
  have heq : ∀ W : World, (binOp .eql 59 (.slice (some ad) n cap) (.slice none 0 0)).run Tryz.prog W = .ok (.bool false) W := fun W => Lib.run_eql_slice_nil W _ _ (some ad) n cap 0 0 Tryz.underlying59
  have HA := hid ha
  have HB : Hid (Below w.heap.size w (w.alloc (.cells #[] 22))) := (Below.refl _ _).alloc (Nat.le_refl _) _
  have HO : Hid ((w.alloc (.cells #[] 22)).ownsRow w.heap.size 22 1 (.slice (some ⟨w.heap.size, 0, none⟩) 0 0) 0 (([] : List Int).map (Value.int .u64))) :=
   World.ownsRow_lit (base := w.heap.size) (e := 22) (size := 1) w #[] 0 (Nat.le_refl _) (by unfold maxLen; omega) (by simp)
  clear ha h hnn
  go_enter Tryz.func38, Tryz.ntmps38
  go_wp2_with (at_builtin; refine append_any _ rfl (.tmp 5) (.tmp 6) 59 rfl w.heap.size 22 i0 (.int .u64 0) 8 Tryz.underlying59 hi hz0 hz1 hz2 rfl .u64 _ 0 [] rfl HO.out (some ad) n cap ids rfl (HA.out.below HB.out) (by omega) (by omega) HB.out.size ?_; intro v' w3 hO3 hb3)
  rw [Nat.zero_add, List.nil_append] at hO3
  obtain ⟨a3, c3, rfl, hr3⟩ := Reads.own (k := .u64) hO3
  have HL : Hid (∀ p, a3 = some p → w.heap.size ≤ p.block ∧ ∃ cur, w3.heap[p.block]? = some (.cells cur 22 (0, 0))) := fun p hp => ⟨(World.ownsRow.lt hO3 p.block (by rw [hp]; rfl)).1, own_type hO3 (by rw [hp]; rfl)⟩
  have HR3 := hid hr3
  have HB3 := hid (HB.out.trans hb3)
  clear hO3 hb3 HA HB HO hr3
  go_wp2
  go_ret
  exact ⟨_, _, rfl, HR3.out, HL.out, HB3.out⟩
end Go.Proofs.YtjgggialnegddaaGreat
