/-
  SaDraws: Contracts of layer 11's own helpers: sum, firstAbove (with slices.IndexFunc), how much a mark counts (the literal of Draw), weigh.
  SaBest: Contracts: weigh, Best, Draw.
  RTMath: Mathematics of the document's Top: one by one the greatest that is left (Sel).
  RTops: Contract: the document's Top hands back the places of the greatest (TopOf).
  RSa: Contracts: the document's Best and Draw.
  SaMarks: Contracts: Marks and Next, of the program and of the document.
  SaNext: Contracts: Next, of the program and of the document.
  DeMath: Mathematics of layer 12: the vectors of a text (tvsL), what comes of its last place (outK), the next token (toldZ), what follows (refL); whether a job may be (mayJ).
  RTold: Contracts: the document's Told, Ref and May of layer 12.
  RRef: Contracts: the document's May and Ref of layer 12.
  Apps: An append of a list of numbers to a row of the call's own, with where the row then lies (Moved); what else lies in memory stays (own_apart, two_app).
  DeMath2: Mathematics of layer 12, more: there is always a drawn token, and it is a token (told_bd); what follows are tokens (refL_in), and the text has at most 256 (refL_most).
  DeSt: States of package decode in memory: what a state's struct and lists hold (StIn), the same with the blocks that it lies in (StAt), and how that is carried on while rows of ints grow beside it.
  De1: Contracts of package decode, the small ones: isToken, isModel, May, Len, Tokens, first.
-/
import Derived.Test.YtdomjdfancpbbaaGreatPk09
import Derived.Deep.QuietTactic
import Derived.BigQuiet
import Derived.Test.YtdomjdfancpbbaaGreatPk03
import Derived.Test.YtdomjdfancpbbaaGreatPk01
import Derived.Test.YtdomjdfancpbbaaGreatPk06
import Derived.Deep.RegionHeld3
import Derived.Test.YtdomjdfancpbbaaGreatPk04
import Derived.Test.YtdomjdfancpbbaaGreatPk07
namespace Go.Proofs.YtdomjdfancpbbaaGreat
open Go.RowKit
set_option linter.unusedVariables false
set_option maxRecDepth 1000000

theorem ssum_any (g len cap : Nat) (ws : List Int) (w : World) (ha : Reads .i64 w (some ⟨g, 0, none⟩) len cap ws) (hlen : len ≤ 1000) :
    Calls Tryz.prog 98 #[.slice (some ⟨g, 0, none⟩) len cap] w fun e w' => e = .returned (.int .i64 (sumK ws len)) ∧ w' = w := by
  have hroom := ha.room
  have hmost := ha.most
  have HA := hid ha
  clear ha
  go_enter Tryz.func98, Tryz.ntmps98
  go_wp2_with fail
  go_loopw [3, 8] (fun s i W => ∃ k : Nat, k ≤ len ∧ s = .int .i64 (sumK ws k) ∧ i = .int .i64 k ∧ Hid (W = w)) (fun _ i _ => len - (intOf i).toNat)
  case atStart => exact ⟨0, Nat.zero_le _, rfl, rfl, rfl⟩
  case round =>
    obtain ⟨k, hk, rfl, rfl, hW⟩ := hrel
    have hW := hW.out
    subst hW
    by_cases hlt : k < len
    · have ck := HA.out.at hlt
      rw [Nat.zero_add] at ck
      have HSu : Hid (addZ (sumK ws k) (ws[k]?.getD 0) = sumK ws (k + 1)) := rfl
      generalize sumK ws k = s at *
      generalize ws[k]?.getD 0 = x at *
      go_wp2_with fail
      refine (add_any _ _ _).mono ?_
      rintro e w' ⟨rfl, rfl⟩
      rw [HSu.out]
      go_wp2_with fail
      go_round
      case rel => exact ⟨k + 1, by omega, rfl, by go_num, trivial⟩
      case measure => simp [intOf]; omega
    · obtain rfl : k = len := by omega
      go_wp2
      go_ret
      exact ⟨rfl, rfl⟩

theorem fa1_any (x s d : Int) (B Bn : Nat) (w : World) (hB : w.heap[B]? = some (.cells #[.int .i64 s] 2 (0, 0))) (hn : w.heap[Bn]? = some (.cells #[.int .i64 d] 2 (0, 0))) (hne : Bn ≠ B) :
    Calls Tryz.prog 124 #[.int .i64 x, .pointer (some ⟨B, 0, none⟩), .pointer (some ⟨Bn, 0, none⟩)] w fun e w' => e = .returned (.bool (decide (d < addZ s x))) ∧ w'.heap[B]? = some (.cells #[.int .i64 (addZ s x)] 2 (0, 0)) ∧ But [B] w w' := by
  have cs := cell_of_one hB
  have fs := free_of_one hB
  have hO := one_setCell (u := .int .i64 (addZ s x)) hB
  have HO := hid hO
  have HBt : Hid (But [B] w (w.setCell ⟨B, 0, none⟩ (.int .i64 (addZ s x)))) := (But.refl _ _).set (p := ⟨B, 0, none⟩) (List.mem_singleton.2 rfl) _
  have cs2 := cell_of_one hO
  have cn2 := cell_of_one (HBt.out.one hn (by simpa using hne))
  clear hB hn hO
  go_enter Tryz.func124, Tryz.ntmps124
  go_wp2_with fail
  refine (add_any _ _ _).mono ?_
  rintro e w' ⟨rfl, rfl⟩
  go_wp2
  go_ret
  exact ⟨rfl, HO.out, HBt.out⟩

/-- What stands in memory between the rounds: the sum so far, and the number. -/
structure FaAt (w : World) (d s : Int) (W : World) : Prop where
  old : Below w.heap.size w W
  num : W.heap[w.heap.size]? = some (.cells #[.int .i64 d] 2 (0, 0))
  var : W.heap[w.heap.size + 1]? = some (.cells #[.int .i64 s] 2 (0, 0))
theorem FaAt.new (w : World) (d : Int) : FaAt w d 0 ((w.alloc (.cells #[.int .i64 d] 2)).alloc (.cells #[.int .i64 0] 2)) := by
  refine ⟨((Below.refl _ _).alloc (Nat.le_refl _) _).alloc (by simp) _, ?_, ?_⟩
  · rw [Below.heap_alloc _ _ _ (by simp)]; exact heap_alloc_new w _
  · have := heap_alloc_new (w.alloc (.cells #[.int .i64 d] 2)) (.cells #[.int .i64 0] 2)
    simpa using this

theorem fIndex_any (g len cap : Nat) (ws : List Int) (d : Int) (w W : World) (ha : Reads .i64 w (some ⟨g, 0, none⟩) len cap ws) (hlen : len ≤ 1000) (d0 : 0 ≤ d) (hd : d < sumK ws len) (h0 : FaAt w d 0 W) :
    Calls Tryz.prog 123 #[.slice (some ⟨g, 0, none⟩) len cap, .func (.func 124) #[] #[.pointer (some ⟨w.heap.size + 1, 0, none⟩), .pointer (some ⟨w.heap.size, 0, none⟩)]] W fun e w' => ∃ k : Nat, e = .returned (.int .i64 k) ∧ FirstAt ws len d k ∧ Below w.heap.size w w' := by
  have hroom := ha.room
  have hmost := ha.most
  have HA := hid ha
  have HD := hid hd
  have HD0 := hid d0
  have H0 : Hid (FaAt w d (sumK ws 0) W) := h0
  have hEn := enters_of Tryz.func124 (by kernel_rfl) rfl
  clear ha hd h0 d0
  go_enter Tryz.func123, Tryz.ntmps123
  go_wp2_with fail
  go_loopw [8] (fun i W => ∃ k : Nat, k ≤ len ∧ i = .int .i64 k ∧ Hid (FaAt w d (sumK ws k) W) ∧ Hid (∀ j, j < k → sumK ws (j + 1) ≤ d)) (fun i _ => len - (intOf i).toNat)
  case atStart => exact ⟨0, Nat.zero_le _, rfl, H0, fun j hj => absurd hj (by omega)⟩
  case round =>
    obtain ⟨k, hk, rfl, HF, HL⟩ := hrel
    clear H0
    rename World => wr
    by_cases hlt : k < len
    · have ck := (HA.out.below HF.out.old).at hlt
      rw [Nat.zero_add] at ck
      have HSu : Hid (addZ (sumK ws k) (ws[k]?.getD 0) = sumK ws (k + 1)) := rfl
      have hC := fa1_any (ws[k]?.getD 0) (sumK ws k) d _ _ wr HF.out.var HF.out.num (by omega)
      rw [HSu.out] at hC
      have HN : Hid (∀ W', But [w.heap.size + 1] wr W' → W'.heap[w.heap.size + 1]? = some (.cells #[.int .i64 (sumK ws (k + 1))] 2 (0, 0)) → FaAt w d (sumK ws (k + 1)) W') := fun W' hb hv =>
        ⟨HF.out.old.trans (hb.to (fun s hs => by rw [List.mem_singleton.1 hs]; omega) HF.out.old.size), hb.one HF.out.num (by simp), hv⟩
      clear HF HSu
      generalize ws[k]?.getD 0 = x at *
      by_cases hu : d < sumK ws (k + 1)
      · have HE : Hid (FirstAt ws len d k) := ⟨hlt, hu, HL.out⟩
        rw [decide_eq_true hu] at hC
        clear HA HD HL hu
        go_wp2_with fail
        refine hC.mono ?_
        rintro e w2 ⟨rfl, h2, hb⟩
        have HB := hid (HN.out _ hb h2).old
        clear hC h2 hb HN
        go_wp2
        go_ret
        exact ⟨k, rfl, HE.out, HB.out⟩
      · rw [decide_eq_false hu] at hC
        have HL2 : Hid (∀ j, j < k + 1 → sumK ws (j + 1) ≤ d) := fun j hj => by
          rcases (by omega : j < k ∨ j = k) with h | rfl
          · exact HL.out j h
          · omega
        clear HL hu
        go_wp2_with fail
        refine hC.mono ?_
        rintro e w2 ⟨rfl, h2, hb⟩
        have HF2 := hid (HN.out _ hb h2)
        clear hC h2 hb HN
        go_wp2_with fail
        go_round
        case rel => exact ⟨k + 1, by omega, by go_num, HF2, HL2⟩
        case measure => simp [intOf]; omega
    · obtain rfl : k = len := by omega
      exact (first_no HD0.out HD.out HL.out).elim
theorem above_any (g len cap : Nat) (ws : List Int) (d : Int) (w : World) (ha : Reads .i64 w (some ⟨g, 0, none⟩) len cap ws) (hlen : len ≤ 1000) (d0 : 0 ≤ d) (hd : d < sumK ws len) :
    Calls Tryz.prog 99 #[.slice (some ⟨g, 0, none⟩) len cap, .int .i64 d] w fun e w' => ∃ k : Nat, e = .returned (.int .i64 k) ∧ FirstAt ws len d k ∧ Below w.heap.size w w' := by
  have HC := hid (fIndex_any g len cap ws d w _ ha hlen d0 hd (FaAt.new w d))
  clear ha d0 hd
  go_enter Tryz.func99, Tryz.ntmps99
  go_wp2_with fail
  refine HC.out.mono ?_
  rintro e w2 ⟨k, rfl, hF, hb⟩
  have HE := hid hF
  have HB := hid hb
  clear HC hF hb
  go_wp2
  go_ret
  exact ⟨k, rfl, HE.out, HB.out⟩

theorem count1_any (a : Option Addr) (len cap m : Nat) (zs : List Int) (heat : Int) (B1 B2 : Nat) (w : World) (ha : Reads .i64 w a len cap zs) (hlen : len ≤ 1000) (hm : m < len)
    (h1 : w.heap[B1]? = some (.cells #[.slice a len cap] 99 (0, 0))) (h2 : w.heap[B2]? = some (.cells #[.int .i64 heat] 3 (0, 0))) :
    Calls Tryz.prog 93 #[.int .i64 m, .pointer (some ⟨B1, 0, none⟩), .pointer (some ⟨B2, 0, none⟩)] w fun e w' => e = .returned (.int .i64 (cntZ zs heat m)) ∧ Below w.heap.size w w' := by
  have c1 := cell_of_one h1
  have c2 := cell_of_one h2
  have hroom := ha.room
  have hmost := ha.most
  obtain ⟨b, o, rfl, cm⟩ := ha.cell m hm
  have HE : Hid (divZ (mulZ (zs[m]?.getD 0) (fromZ 4)) (fromZ heat) = cntZ zs heat m) := by unfold Hid cntZ; rw [Int.toNat_natCast]
  have q1 : (m : Int) < (len : Int) := by omega
  clear ha h1 h2
  generalize zs[m]?.getD 0 = x at *
  go_enter Tryz.func93, Tryz.ntmps93
  go_wp2_with fail
  go_quiet (first | (go_at_call 96; exact Calls.quiet_of_same (from_any _ _)) | (go_at_call 95; exact Calls.quiet_of_same (mul_any _ _ _)) | (go_at_call 94; exact Calls.quiet_of_same (div_any _ _ _)))
  go_wp2
  go_ret
  exact ⟨ret_int HE.out, ⟨rfl, rfl, rfl, Nat.le_refl _, fun _ _ => rfl⟩⟩
end Go.Proofs.YtdomjdfancpbbaaGreat
namespace Go.Proofs.YtdomjdfancpbbaaGreat
open Go.RowKit
set_option linter.unusedVariables false
set_option maxRecDepth 1000000

theorem block_up {w w' : World} {k : Nat} {o : Obj} (h : w.heap[k]? = some o) (hb : Below w.heap.size w w') : w'.heap[k]? = some o := (hb.block k (lt_of_block h)).trans h
set_option maxHeartbeats 1000000 in
theorem weigh_any (a : Option Addr) (len cap gt K ct : Nat) (zs ps : List Int) (heat : Int) (B1 B2 : Nat) (w : World) (ha : Reads .i64 w a len cap zs) (hlen : len ≤ 1000) (ht : Reads .i64 w (some ⟨gt, 0, none⟩) K ct ps) (hK : K ≤ 1000)
    (hp : ∀ i, i < K → ∃ m : Nat, ps[i]?.getD 0 = m ∧ m < len)
    (h1 : w.heap[B1]? = some (.cells #[.slice a len cap] 99 (0, 0))) (h2 : w.heap[B2]? = some (.cells #[.int .i64 heat] 3 (0, 0))) :
    Calls Tryz.prog 92 #[.slice (some ⟨gt, 0, none⟩) K ct, .func (.func 93) #[] #[.pointer (some ⟨B1, 0, none⟩), .pointer (some ⟨B2, 0, none⟩)]] w fun e w' => Made w K (wtL zs heat ps) e w' := by
  have hmk : ∀ W : World, (Instr.makeSlice 99 (.int .i64 (K : Int)) (.int .i64 (K : Int))).run Tryz.prog W = .ok (.slice (some ⟨W.heap.size, 0, none⟩) K K) (W.alloc (.cells (madeCells #[.int .i64 0] K) 2)) := fun W => make_ints W K (by omega)
  have hpl := ht.size
  have hroom := ht.room
  have hmost := ht.most
  have HO0 : Hid (OwnK 2 w.heap.size w.heap.size K K (madeK (cntZ zs heat) ps K 0) (w.alloc (.cells (madeCells #[.int .i64 0] K) 2))) := by
    have := own_made 2 w K (by omega)
    unfold Hid madeK
    simpa using this
  have HB0 : Hid (Below w.heap.size w (w.alloc (.cells (madeCells #[.int .i64 0] K) 2))) := (Below.refl _ _).alloc (Nat.le_refl _) _
  have HC : Hid (∀ k, k < K → ∀ W, Below w.heap.size w W → Calls Tryz.prog 93 #[.int .i64 (ps[k]?.getD 0), .pointer (some ⟨B1, 0, none⟩), .pointer (some ⟨B2, 0, none⟩)] W fun e w' => e = .returned (.int .i64 (cntZ zs heat (ps[k]?.getD 0))) ∧ Below W.heap.size W w') := by
    intro k hk W hb
    obtain ⟨m, e, hm⟩ := hp k hk
    rw [e]
    exact count1_any a len cap m zs heat B1 B2 W (ha.below hb) hlen hm ((hb.block _ (lt_of_block h1)).trans h1) ((hb.block _ (lt_of_block h2)).trans h2)
  have HT := hid fun W (hb : Below w.heap.size w W) => ht.below hb
  have hEn := enters_of Tryz.func93 (by kernel_rfl) rfl
  have HS := hid fun g W (hO : OwnK 2 w.heap.size g K K (cntL zs heat ps) W) => soft_any _ K K (cntL zs heat ps) W hO.reads hK
  have HMK : Hid (∀ k, k < K → (madeK (cntZ zs heat) ps K k).set k (cntZ zs heat (ps[k]?.getD 0)) = madeK (cntZ zs heat) ps K (k + 1)) := fun k hk => by rw [← hpl]; exact madeK_set (by omega)
  have HMA : Hid (madeK (cntZ zs heat) ps K K = cntL zs heat ps) := by unfold Hid cntL; rw [← hpl]; exact madeK_all _ _
  clear ha ht hp h1 h2 hpl
  go_enter Tryz.func92, Tryz.ntmps92
  go_wp2_with fail
  clear hmk
  go_loopw [13] (fun i W => ∃ k : Nat, k ≤ K ∧ i = .int .i64 k ∧ Hid (OwnK 2 w.heap.size w.heap.size K K (madeK (cntZ zs heat) ps K k) W) ∧ Hid (Below w.heap.size w W)) (fun i _ => K - (intOf i).toNat)
  case atStart => exact ⟨0, Nat.zero_le _, rfl, HO0, HB0⟩
  case round =>
    obtain ⟨k, hk, rfl, HO, HW⟩ := hrel
    clear HO0 HB0
    rename World => wr
    by_cases hlt : k < K
    · have ck := (HT.out _ HW.out).at hlt
      rw [Nat.zero_add] at ck
      have hC := HC.out k hlt wr HW.out
      have HE := HMK.out k hlt
      have q1 : (k : Int) < (K : Int) := by omega
      clear HS HMA HC HMK HT
      generalize cntZ zs heat (ps[k]?.getD 0) = y at *
      generalize ps[k]?.getD 0 = x at *
      go_wp2_with fail
      refine hC.mono ?_
      rintro e w2 ⟨rfl, hb⟩
      have HO2 := hid (HO.out.stays hb)
      have ck2 := HO2.out.cell hlt
      have fk := HO2.out.frozen k
      have HO3 : Hid (OwnK 2 w.heap.size w.heap.size K K (madeK (cntZ zs heat) ps K (k + 1)) (w2.setCell ⟨w.heap.size, k, none⟩ (.int .i64 y))) := by
        rw [← HE]; exact HO2.out.set k y
      have HW2 := hid ((HW.out.trans (hb.mono HW.out.size)).setCell (p := ⟨w.heap.size, k, none⟩) (Nat.le_refl _) (.int .i64 y))
      clear hb hC HO HW HO2 HE ck
      go_wp2_with fail
      go_round
      case rel => exact ⟨k + 1, by omega, by go_num, HO3, HW2⟩
      case measure => simp [intOf]; omega
    · obtain rfl : k = K := by omega
      have hO := HO.out
      rw [HMA.out] at hO
      have hS := HS.out _ wr hO
      clear HS HMA HC HMK HT HO hO
      go_wp2_with fail
      refine hS.mono ?_
      rintro e w2 ⟨g2, c2, rfl, hO2, hb⟩
      have HO2 := hid (hO2.low HW.out.size)
      have HW2 := hid (HW.out.trans (hb.mono HW.out.size))
      clear hS hO2 hb HW
      go_wp2
      go_ret
      exact ⟨_, _, rfl, HO2.out, HW2.out⟩

theorem best_of (a : Option Addr) (len cap : Nat) (zs : List Int) (w : World) (ha : Reads .i64 w a len cap zs) (hlen : len ≤ 1000) :
    Calls Tryz.prog 90 #[.slice a len cap] w fun e w' => ∃ t, e = .returned (.int .i64 t) ∧ BestOf zs t ∧ Below w.heap.size w w' := by
  have hz := ha.size
  by_cases h0 : len = 0
  · subst h0
    have hz : zs = [] := List.eq_nil_of_length_eq_zero hz
    subst hz
    clear ha
    go_enter Tryz.func90, Tryz.ntmps90
    go_wp2
    go_ret
    exact ⟨_, rfl, best_nil, Below.refl _ _⟩
  · have hK : Kof 1 len 1 := by unfold Kof; omega
    have hT := top_any a len cap 1 1 zs w ha hlen hK (by omega)
    have q1 : ¬ (len : Int) = 0 := by omega
    clear ha hK
    go_enter Tryz.func90, Tryz.ntmps90
    go_wp2_with fail
    refine hT.mono ?_
    rintro e w2 ⟨g, ps, rfl, hO, hP, hb⟩
    have c0 := hO.cell (k := 0) (by omega)
    have HE : Hid (BestOf zs (ps[0]?.getD 0)) := by
      have hl := hP.len
      match ps, hl with
      | [x], _ =>
        refine .inr ⟨by omega, ?_⟩
        rw [hz]
        exact hP
    generalize ps[0]?.getD 0 = t at *
    have HB := hid hb
    clear hT hO hP hb
    go_wp2
    go_ret
    exact ⟨t, rfl, HE.out, HB.out⟩
theorem best_any (a : Option Addr) (len cap : Nat) (zs : List Int) (w : World) (ha : Reads .i64 w a len cap zs) (hlen : len ≤ 1000) :
    Calls Tryz.prog 90 #[.slice a len cap] w fun e w' => e = .returned (.int .i64 (bestZ zs)) ∧ Below w.heap.size w w' :=
  (best_of a len cap zs w ha hlen).mono fun e w' ⟨t, h1, h2, h3⟩ => ⟨by rw [h2.eq]; exact h1, h3⟩

set_option maxHeartbeats 1000000 in
theorem draw_of (a : Option Addr) (len cap : Nat) (zs : List Int) (top heat s p : Int) (w : World) (ha : Reads .i64 w a len cap zs) (hlen : len ≤ 1000) :
    Calls Tryz.prog 64 #[.slice a len cap, .int .i64 top, .int .i64 heat, .int .u64 s, .int .u64 p] w fun e w' => ∃ t, e = .returned (.int .i64 t) ∧ DrawOf zs top heat s p t ∧ Below w.heap.size w w' := by
  have hz := ha.size
  obtain ⟨wA, hwA⟩ : ∃ wA, wA = (w.alloc (.cells #[.slice a len cap] 99)).alloc (.cells #[.int .i64 heat] 3) := ⟨_, rfl⟩
  have hB0 : Below w.heap.size w wA := by rw [hwA]; exact ((Below.refl _ _).alloc (Nat.le_refl _) _).alloc (by simp) _
  have e1 : wA.heap[w.heap.size]? = some (.cells #[.slice a len cap] 99 (0, 0)) := by
    rw [hwA, Below.heap_alloc _ _ _ (by simp)]; exact heap_alloc_new w _
  have e2 : wA.heap[w.heap.size + 1]? = some (.cells #[.int .i64 heat] 3 (0, 0)) := by
    have := heap_alloc_new (w.alloc (.cells #[.slice a len cap] 99)) (.cells #[.int .i64 heat] 3)
    rw [hwA]
    simpa using this
  have HC : Hid (∀ W, Below wA.heap.size wA W → W.cell? ⟨w.heap.size, 0, none⟩ = some (.slice a len cap) ∧ W.cell? ⟨w.heap.size + 1, 0, none⟩ = some (.int .i64 heat)) := fun W hb => ⟨cell_of_one (block_up e1 hb), cell_of_one (block_up e2 hb)⟩
  obtain ⟨c1, c2⟩ := HC.out wA (Below.refl _ _)
  have hroom := ha.room
  have hmost := ha.most
  by_cases hc : len = 0 ∨ heat < 1
  · have hBe := best_of a len cap zs wA (ha.below hB0) hlen
    have HD : Hid (∀ t, BestOf zs t → DrawOf zs top heat s p t) := fun t ht => by
      refine .inl ⟨?_, ht⟩
      rcases hc with hc | hc
      · left; exact List.eq_nil_of_length_eq_zero (by omega)
      · right; exact hc
    have HB := hid hB0
    clear ha e1 e2 hB0 HC
    rw [hwA] at c1 c2
    by_cases h0 : len = 0
    · subst h0
      clear hc
      go_enter Tryz.func64, Tryz.ntmps64
      go_wp2_with fail
      rw [← hwA]
      refine hBe.mono ?_
      rintro e w2 ⟨t, rfl, hT, hb⟩
      have HT := hid (HD.out t hT)
      replace HB := hid (HB.out.trans (hb.mono HB.out.size))
      clear hT hb hBe HD hwA c1 c2
      go_wp2
      go_ret
      exact ⟨t, rfl, HT.out, HB.out⟩
    · have hh : heat < 1 := by omega
      have q1 : ¬ (len : Int) = 0 := by omega
      clear hc
      go_enter Tryz.func64, Tryz.ntmps64
      go_wp2_with fail
      rw [← hwA]
      refine hBe.mono ?_
      rintro e w2 ⟨t, rfl, hT, hb⟩
      have HT := hid (HD.out t hT)
      replace HB := hid (HB.out.trans (hb.mono HB.out.size))
      clear hT hb hBe HD hwA c1 c2
      go_wp2
      go_ret
      exact ⟨t, rfl, HT.out, HB.out⟩
  · have h0 : 0 < len := by omega
    have hh : ¬ heat < 1 := by omega
    have q1 : ¬ (len : Int) = 0 := by omega
    obtain ⟨K, hK, hKl⟩ := kof_any (mx1 top) len
    have hK0 := kof_pos hK h0
    have hT := top_any a len cap K (mx1 top) zs wA (ha.below hB0) hlen hK hKl
    have hmx : (if top < 1 then 1 else top) = mx1 top := by unfold mx1; split <;> omega
    have HW := hid fun (W : World) gt ct ps (hb : Below wA.heap.size wA W) (ht : Reads .i64 W (some ⟨gt, 0, none⟩) K ct ps) (hP : TopOf zs len K ps) => weigh_any a len cap gt K ct zs ps heat w.heap.size (w.heap.size + 1) W ((ha.below hB0).below hb) hlen ht (by omega) (fun i hi => hP.at hi) (block_up e1 hb) (block_up e2 hb)
    have HD : Hid (∀ (k : Nat) ps, TopOf zs len K ps → FirstAt (wtL zs heat ps) K (belowZ s p (sumK (wtL zs heat ps) K)) k → DrawOf zs top heat s p (ps[k]?.getD 0)) := fun k ps hP hF => .inr ⟨by omega, by omega, K, k, ps, by rw [hz]; exact hK, by rw [hz]; exact hP, hF, rfl⟩
    have HS : Hid (∀ ps, TopOf zs len K ps → (0 < sumK (wtL zs heat ps) K ∧ sumK (wtL zs heat ps) K ≤ 2147483647) ∧ 0 ≤ belowZ s p (sumK (wtL zs heat ps) K) ∧ belowZ s p (sumK (wtL zs heat ps) K) < sumK (wtL zs heat ps) K) := fun ps hP => ⟨wt_sum hP.len hK0, below_sum s p hP.len hK0⟩
    have HB := hid hB0
    clear ha e1 e2 hB0 hK hc
    rw [hwA] at c1 c2
    generalize mx1 top = T at *
    go_enter Tryz.func64, Tryz.ntmps64
    go_wp2_with fail
    rw [← hwA]
    refine hT.mono ?_
    rintro e w2 ⟨gt, ps, rfl, hO, hP, hb⟩
    have HO := hid hO
    have hw := HW.out w2 gt K ps hb hO.reads hP
    obtain ⟨⟨s0, s1⟩, d0, d1⟩ := HS.out ps hP
    replace HD := hid fun k => HD.out k ps hP
    have HP := hid hP
    replace HB := hid (HB.out.trans (hb.mono HB.out.size))
    clear hT hO hP hb HW HS HC hwA c1 c2 hmx
    go_wp2_with fail
    refine hw.mono ?_
    rintro e w3 ⟨gw, cw, rfl, hO, hb⟩
    have HR := hid hO.reads
    replace HO := hid (HO.out.stays hb)
    replace HB := hid (HB.out.trans (hb.mono HB.out.size))
    have HF := hid (above_any gw K cw (wtL zs heat ps) _ w3 hO.reads (by omega) d0 d1)
    have hcw := hO.reads.room
    have hcm := hO.reads.most
    clear hw hO hb d1
    have hSu := ssum_any gw K cw (wtL zs heat ps) w3 HR.out (by omega)
    generalize wtL zs heat ps = ws at *
    have HDb : Hid (belowZ s p (sumK ws K) ≤ 2147483647) := by
      have := below_bd s p s0
      unfold Hid
      omega
    go_wp2_with fail
    refine hSu.mono ?_
    rintro e w' ⟨rfl, rfl⟩
    clear hSu HR
    rename World => w3
    generalize sumK ws K = S at *
    go_wp2_with fail
    refine (dbelow_any s p S _ (by omega) (by omega)).mono ?_
    rintro e w' ⟨rfl, rfl⟩
    have d1 := HDb.out
    clear HDb
    generalize belowZ s p S = d at *
    go_wp2_with fail
    refine HF.out.mono ?_
    rintro e w4 ⟨k, rfl, hF, hb⟩
    have HE := hid (HD.out k hF)
    have ck := (HO.out.stays hb).cell hF.lt
    have hk := hF.lt
    replace HB := hid (HB.out.trans (hb.mono HB.out.size))
    clear HF HD HO hF hb HP
    generalize ps[k]?.getD 0 = t at *
    go_wp2
    go_ret
    exact ⟨t, rfl, HE.out, HB.out⟩
theorem draw_any (a : Option Addr) (len cap : Nat) (zs : List Int) (top heat s p : Int) (w : World) (ha : Reads .i64 w a len cap zs) (hlen : len ≤ 1000) :
    Calls Tryz.prog 64 #[.slice a len cap, .int .i64 top, .int .i64 heat, .int .u64 s, .int .u64 p] w fun e w' => e = .returned (.int .i64 (drawZ zs top heat s p)) ∧ Below w.heap.size w w' :=
  (draw_of a len cap zs top heat s p w ha hlen).mono fun e w' ⟨t, h1, h2, h3⟩ => ⟨by rw [h2.eq]; exact h1, h3⟩
end Go.Proofs.YtdomjdfancpbbaaGreat
namespace Go.Proofs.YtdomjdfancpbbaaGreat
open Go.RowKit
set_option linter.unusedVariables false
set_option maxRecDepth 1000000

/-- The mark of a place. -/
def mkP (zs : List Int) (i : Nat) : Mk := ((i : Int), wi (zs[i]?.getD 0))
/-- The marks of the first k places that were not met. -/
def restK (zs : List Int) (bs : List Bool) : Nat → List Mk
  | 0 => []
  | k + 1 => restK zs bs k ++ (if mt bs k then [] else [mkP zs k])
theorem restK_mem {zs : List Int} {bs : List Bool} {k : Nat} {m : Mk} : m ∈ restK zs bs k ↔ ∃ i, i < k ∧ mt bs i = false ∧ m = mkP zs i := by
  induction k with
  | zero => simp [restK]
  | succ k ih =>
    simp only [restK, List.mem_append, ih]
    constructor
    · rintro (⟨i, hi, h⟩ | h)
      · exact ⟨i, by omega, h⟩
      · cases hb : mt bs k with
        | true => rw [hb] at h; simp at h
        | false => rw [hb] at h; simp at h; exact ⟨k, by omega, hb, h⟩
    · rintro ⟨i, hi, h1, h2⟩
      rcases (by omega : i < k ∨ i = k) with h | rfl
      · exact .inl ⟨i, h, h1, h2⟩
      · rw [h1]; simp; exact .inr h2
theorem restK_none (zs : List Int) (n k : Nat) : restK zs (List.replicate n false) k = marksK zs k := by
  induction k with
  | zero => rfl
  | succ k ih =>
    have h : mt (List.replicate n false) k = false := by
      unfold mt
      rw [List.getElem?_replicate]
      split <;> rfl
    simp only [restK, marksK, ih, h]
    rfl
theorem restK_below {zs : List Int} {bs : List Bool} {B : Nat} (h : B < bs.length) : ∀ k, k ≤ B → restK zs (bs.set B true) k = restK zs bs k := by
  intro k
  induction k with
  | zero => intro _; rfl
  | succ k ih =>
    intro hk
    simp only [restK]
    rw [ih (by omega), mt_other (by omega)]
theorem restK_set {zs : List Int} {bs : List Bool} {B : Nat} (h : B < bs.length) (hB : mt bs B = false) : ∀ k, B < k → (mkP zs B :: restK zs (bs.set B true) k).Perm (restK zs bs k) := by
  intro k
  induction k with
  | zero => intro hk; omega
  | succ k ih =>
    intro hk
    rcases (by omega : B < k ∨ B = k) with h1 | rfl
    · simp only [restK]
      rw [mt_other (by omega)]
      exact (ih h1).append_right _
    · simp only [restK]
      rw [mt_same h, restK_below h B (Nat.le_refl _), hB]
      simp
      exact (List.perm_append_singleton _ _).symm
theorem restK_len {zs : List Int} {bs : List Bool} {k : Nat} (h : ∀ i, i < k → mt bs i = true) : restK zs bs k = [] := by
  induction k with
  | zero => rfl
  | succ k ih => simp only [restK]; rw [ih (fun i hi => h i (by omega)), h k (by omega)]; rfl

/-- What was chosen, the greatest first, and which places were met. -/
structure Sel (zs : List Int) (n : Nat) (bs : List Bool) (qs : List Mk) : Prop where
  len : bs.length = n
  perm : (qs ++ restK zs bs n).Perm (marksK zs n)
  falls : Falls qs
  le : ∀ r ∈ restK zs bs n, ∀ q ∈ qs, leM r q
theorem Sel.start (zs : List Int) (n : Nat) : Sel zs n (List.replicate n false) [] :=
  ⟨by simp, by rw [restK_none]; exact List.Perm.refl _, List.Pairwise.nil, by simp⟩
theorem Sel.step {zs : List Int} {n : Nat} {bs : List Bool} {qs : List Mk} (h : Sel zs n bs qs) {B : Nat} (hB : B < n) (hb : mt bs B = false) (hg : ∀ i, i < n → mt bs i = false → leM (mkP zs i) (mkP zs B)) : Sel zs n (bs.set B true) (qs ++ [mkP zs B]) := by
  have hl : B < bs.length := by rw [h.len]; exact hB
  have hm : mkP zs B ∈ restK zs bs n := restK_mem.2 ⟨B, hB, hb, rfl⟩
  have hs : ∀ r ∈ restK zs (bs.set B true) n, r ∈ restK zs bs n := fun r hr => (restK_set hl hb n hB).subset (List.mem_cons_of_mem _ hr)
  refine ⟨by simpa using h.len, ?_, ?_, ?_⟩
  · rw [List.append_assoc]
    exact ((restK_set hl hb n hB).append_left qs).trans h.perm
  · refine List.pairwise_append.2 ⟨h.falls, by simp, ?_⟩
    intro a ha b hb'
    rw [List.mem_singleton.1 hb']
    exact h.le _ hm a ha
  · intro r hr q hq
    rcases List.mem_append.1 hq with hq | hq
    · exact h.le r (hs r hr) q hq
    · rw [List.mem_singleton.1 hq]
      obtain ⟨i, hi, hbi, rfl⟩ := restK_mem.1 (hs r hr)
      exact hg i hi hbi
theorem Sel.done {zs : List Int} {n : Nat} {bs : List Bool} {qs : List Mk} (h : Sel zs n bs qs) : TopOf zs n qs.length (qs.map Prod.fst) :=
  ⟨qs, _, rfl, rfl, h.falls, h.perm, h.le⟩
/-- The greatest of the first i places that were not met: none, or B. -/
def BestAt (zs : List Int) (bs : List Bool) (i : Nat) (b : Int) : Prop :=
  (b = -1 ∧ ∀ n, n < i → mt bs n = true) ∨ ∃ B : Nat, b = B ∧ B < i ∧ mt bs B = false ∧ ∀ n, n < i → mt bs n = false → leM (mkP zs n) (mkP zs B)
theorem BestAt.start (zs : List Int) (bs : List Bool) : BestAt zs bs 0 (-1) := .inl ⟨rfl, fun n hn => absurd hn (by omega)⟩
theorem BestAt.met {zs : List Int} {bs : List Bool} {i : Nat} {b : Int} (h : BestAt zs bs i b) (hm : mt bs i = true) : BestAt zs bs (i + 1) b := by
  rcases h with ⟨h1, h2⟩ | ⟨B, h1, h2, h3, h4⟩
  · refine .inl ⟨h1, fun n hn => ?_⟩
    rcases (by omega : n < i ∨ n = i) with h | rfl
    · exact h2 n h
    · exact hm
  · refine .inr ⟨B, h1, by omega, h3, fun n hn hb => ?_⟩
    rcases (by omega : n < i ∨ n = i) with h | rfl
    · exact h4 n h hb
    · rw [hm] at hb; cases hb
theorem BestAt.first {zs : List Int} {bs : List Bool} {i : Nat} (h : BestAt zs bs i (-1)) (hm : mt bs i = false) : BestAt zs bs (i + 1) i := by
  rcases h with ⟨h1, h2⟩ | ⟨B, h1, _⟩
  · refine .inr ⟨i, rfl, by omega, hm, fun n hn hb => ?_⟩
    rcases (by omega : n < i ∨ n = i) with h | rfl
    · rw [h2 n h] at hb; cases hb
    · exact leM_refl _
  · omega
theorem BestAt.more {zs : List Int} {bs : List Bool} {i B : Nat} (h : BestAt zs bs i B) (hm : mt bs i = false) (hg : (mkP zs B).2 < (mkP zs i).2) : BestAt zs bs (i + 1) i := by
  rcases h with ⟨h1, _⟩ | ⟨B', h1, h2, h3, h4⟩
  · omega
  · obtain rfl : B = B' := by omega
    refine .inr ⟨i, rfl, by omega, hm, fun n hn hb => ?_⟩
    rcases (by omega : n < i ∨ n = i) with h | rfl
    · refine leM_trans (h4 n h hb) ?_
      unfold leM ltM
      omega
    · exact leM_refl _
theorem BestAt.less {zs : List Int} {bs : List Bool} {i B : Nat} (h : BestAt zs bs i B) (hg : ¬ (mkP zs B).2 < (mkP zs i).2) : BestAt zs bs (i + 1) B := by
  rcases h with ⟨h1, _⟩ | ⟨B', h1, h2, h3, h4⟩
  · omega
  · obtain rfl : B = B' := by omega
    refine .inr ⟨B, rfl, by omega, h3, fun n hn hb => ?_⟩
    rcases (by omega : n < i ∨ n = i) with h | rfl
    · exact h4 n h hb
    · unfold leM ltM
      have : (mkP zs B).1 = (B : Int) := rfl
      have : (mkP zs n).1 = (n : Int) := rfl
      omega
theorem Sel.best {zs : List Int} {n : Nat} {bs : List Bool} {qs : List Mk} (h : Sel zs n bs qs) (hq : qs.length < n) {b : Int} (hb : BestAt zs bs n b) : ∃ B : Nat, b = B ∧ B < n ∧ mt bs B = false ∧ ∀ i, i < n → mt bs i = false → leM (mkP zs i) (mkP zs B) := by
  rcases hb with ⟨h1, h2⟩ | h
  · have := h.perm.length_eq
    rw [restK_len h2, List.append_nil, marksK_len] at this
    omega
  · exact h
end Go.Proofs.YtdomjdfancpbbaaGreat
namespace Go.Proofs.YtdomjdfancpbbaaGreat
open Go.RowKit
set_option linter.unusedVariables false
set_option maxRecDepth 1000000

/-- What stands in memory between the rounds of the outer loop. -/
structure SelAt (w : World) (zs : List Int) (len : Nat) (u : Value) (bs : List Bool) (qs : List Mk) (W : World) : Prop where
  old : Below w.heap.size w W
  sel : Sel zs len bs qs
  met : OwnB w.heap.size len bs W
  out : W.ownsRow (w.heap.size + 1) 3 1 u qs.length ((qs.map Prod.fst).map (Value.int .i64))
  size : w.heap.size < W.heap.size

/-- One number in a new block behind a store. -/
theorem Reads.one_set {k : IntKind} (w : World) (p : Addr) (v : Value) (x : Int) (t : TypeId) : Reads k ((w.setCell p v).alloc (.cells #[.int k x] t)) (some ⟨w.heap.size, 0, none⟩) 1 1 [x] := by
  have h := Reads.one (k := k) (w.setCell p v) x t
  have e : (w.setCell p v).heap.size = w.heap.size := by simp [World.setCell]
  rw [e] at h
  exact h
theorem SelAt.drew {w : World} {zs : List Int} {len : Nat} {u : Value} {bs : List Bool} {qs : List Mk} {W : World} (h : SelAt w zs len u bs qs W) : SelAt w zs len u bs qs W.drew := ⟨h.old.drew, h.sel, h.met, h.out, h.size⟩
theorem SelAt.drewN {w : World} {zs : List Int} {len : Nat} {u : Value} {bs : List Bool} {qs : List Mk} {W : World} (h : SelAt w zs len u bs qs W) (n : Nat) : SelAt w zs len u bs qs (W.drewN n) := ⟨h.old.trans ⟨rfl, rfl, rfl, Nat.le_refl _, fun _ _ => rfl⟩, h.sel, h.met, h.out, h.size⟩
/-- What the document's Top hands back. -/
def TopGives (w : World) (zs : List Int) (len K : Nat) (e : Ending) (w' : World) : Prop := ∃ ad c ps, e = .returned (.slice ad K c) ∧ Reads .i64 w' ad K c ps ∧ TopOf zs len K ps ∧ Below w.heap.size w w'

end Go.Proofs.YtdomjdfancpbbaaGreat
namespace Go.Proofs.YtdomjdfancpbbaaGreat
open Go.RowKit
set_option linter.unusedVariables false
set_option maxRecDepth 1000000

end Go.Proofs.YtdomjdfancpbbaaGreat
namespace Go.Proofs.YtdomjdfancpbbaaGreat
open Go.RowKit
set_option linter.unusedVariables false
set_option maxRecDepth 1000000

/-- A token's mark. -/
def smarkZ (c : Cf) (zs : List Int) (t : Nat) : Int := dotK (normL zs) (tokL c t) (min zs.length (tokL c t).length)

theorem cf_field1 (s v d l tt h : Int) (W : World) : (Instr.field 69 (.agg #[.int .u64 s, .int .i64 v, .int .i64 d, .int .i64 l, .int .i64 tt, .int .i64 h]) 1).run Tryz.prog W = .ok (.int .i64 v) W := by kernel_rfl
set_option maxHeartbeats 1000000 in
theorem marks_g (p : Option Addr) (c : Cf) (V : Nat) (a : Option Addr) (len cap : Nat) (zs : List Int) (w : World) (hp : MdAt w p c) (hV : c.vocab = V) (hV64 : V ≤ 64) (hm : 0 < V → mayB c = true) (ha : Reads .i64 w a len cap zs) (hlen : len ≤ 1000) :
    Calls Tryz.prog 65 #[.pointer p, .slice a len cap] w fun e w' => Made w V (rowK (smarkZ c zs) V) e w' := by
  have hmk : ∀ W : World, (Instr.makeSlice 99 (.int .i64 (V : Int)) (.int .i64 (V : Int))).run Tryz.prog W = .ok (.slice (some ⟨W.heap.size, 0, none⟩) V V) (W.alloc (.cells (madeCells #[.int .i64 0] V) 2)) := fun W => make_ints W V (by omega)
  have hz := ha.size
  have hN := norm_any a len cap zs w ha hlen
  have HC := hid fun W (hb : Below w.heap.size w W) => config_any p c W (hp.below hb)
  have HT := hid fun (t : Nat) (ht : t < V) W (hb : Below w.heap.size w W) => token_g p c t W (hp.below hb) (hm (by omega))
  have HT16 := hid fun (t : Nat) (ht : t < V) => tokL_len (hm (by omega)) t
  have HM : Hid (∀ t : Nat, smarkZ c zs t = dotK (normL zs) (tokL c t) (min len (tokL c t).length)) := fun t => by rw [← hz]; rfl
  clear ha hp hm
  generalize normL zs = ns at *
  obtain ⟨f, hf⟩ : ∃ f : Nat → Int, f = smarkZ c zs := ⟨_, rfl⟩
  rw [← hf] at HM ⊢
  obtain ⟨F, hF⟩ : ∃ F : Nat → List Int, F = fun t => tokL c (t : Nat) := ⟨_, rfl⟩
  have hFt : ∀ t : Nat, tokL c (t : Nat) = F t := fun t => by rw [hF]
  simp only [hFt] at HT HT16 HM
  clear hf hF hFt
  obtain ⟨s, v, d, l, tt, h⟩ := c
  simp only at hV
  subst hV
  unfold CfV at HC
  simp only at HC
  have hfd := cf_field1 s (V : Int) d l tt h
  go_enter Tryz.func65, Tryz.ntmps65
  go_wp2_with fail
  refine hN.mono ?_
  rintro e w1 ⟨gn, cn, rfl, hO, hb⟩
  have HN := hid hO.reads
  have HB := hid hb
  clear hN hO hb
  go_wp2_with fail
  refine (HC.out _ HB.out).mono ?_
  rintro e w2 ⟨rfl, hb⟩
  replace HN := hid (HN.out.below hb)
  replace HB := hid (HB.out.trans (hb.mono HB.out.size))
  clear hb HC
  have HO0 : Hid (OwnK 2 w2.heap.size w2.heap.size V V (rowK f 0 ++ List.replicate (V - 0) 0) (w2.alloc (.cells (madeCells #[.int .i64 0] V) 2))) := own_made 2 w2 V (by omega)
  have HV0 : Hid (Below w2.heap.size w2 (w2.alloc (.cells (madeCells #[.int .i64 0] V) 2))) := (Below.refl _ _).alloc (Nat.le_refl _) _
  go_wp2_with fail
  clear hmk
  go_loopw [16] (fun i W => ∃ k : Nat, k ≤ V ∧ i = .int .i64 k ∧ Hid (OwnK 2 w2.heap.size w2.heap.size V V (rowK f k ++ List.replicate (V - k) 0) W) ∧ Hid (Below w2.heap.size w2 W)) (fun i _ => V - (intOf i).toNat)
  case atStart => exact ⟨0, Nat.zero_le _, rfl, HO0, HV0⟩
  case round =>
    obtain ⟨k, hk, rfl, HO, HW⟩ := hrel
    clear HO0 HV0
    rename World => wr
    by_cases hlt : k < V
    · have hT := HT.out k hlt wr (HB.out.trans (HW.out.mono HB.out.size))
      have h16 := HT16.out k hlt
      have HE := HM.out k
      have HSet := hid (rowK_set f hlt)
      have q1 : (k : Int) < (V : Int) := by omega
      clear HT HT16 HM
      generalize F k = ts at *
      go_wp2_with fail
      refine hT.mono ?_
      rintro e w3 ⟨u, rfl, hO3, hb⟩
      obtain ⟨at_, ct, rfl, hrt⟩ := Reads.own (k := .i64) hO3
      have HN3 := hid ((HN.out.below HW.out).below hb)
      replace HO := hid (HO.out.stays hb)
      replace HW := hid (HW.out.trans (hb.mono HW.out.size))
      have hD := dot_any (some ⟨gn, 0, none⟩) at_ len cn _ ct ns ts w3 HN3.out hrt hlen (by omega)
      rw [← HE] at hD
      clear hT hO3 hb hrt HN3
      go_wp2_with fail
      refine hD.mono ?_
      rintro e w4 ⟨rfl, hb⟩
      replace HO := hid (HO.out.stays hb)
      replace HW := hid (HW.out.trans (hb.mono HW.out.size))
      have ck := HO.out.cell hlt
      have fk := HO.out.frozen k
      have HO5 : Hid (OwnK 2 w2.heap.size w2.heap.size V V (rowK f (k + 1) ++ List.replicate (V - (k + 1)) 0) (w4.setCell ⟨w2.heap.size, k, none⟩ (.int .i64 (f k)))) := by
        rw [← HSet.out]; exact HO.out.set k (f k)
      have HW5 := hid (HW.out.setCell (p := ⟨w2.heap.size, k, none⟩) (Nat.le_refl _) (.int .i64 (f k)))
      clear hD hb HO HW HE HSet
      generalize f k = y at *
      go_wp2_with fail
      go_round
      case rel => exact ⟨k + 1, by omega, by go_num, HO5, HW5⟩
      case measure => simp [intOf]; omega
    · obtain rfl : k = V := by omega
      have hO := HO.out
      rw [Nat.sub_self] at hO
      have HO5 : Hid (OwnK 2 w.heap.size w2.heap.size k k (rowK f k) wr) := by unfold Hid; simpa using hO.low HB.out.size
      have HW5 := hid (HB.out.trans (HW.out.mono HB.out.size))
      clear HO hO HW HB HT HT16 HM HN
      go_wp2
      go_ret
      exact ⟨_, _, rfl, HO5.out, HW5.out⟩
theorem smarks_any (p : Option Addr) (c : Cf) (a : Option Addr) (len cap : Nat) (zs : List Int) (w : World) (hp : MdAt w p c) (hm : mayB c = true) (ha : Reads .i64 w a len cap zs) (hlen : len ≤ 1000) :
    Calls Tryz.prog 65 #[.pointer p, .slice a len cap] w fun e w' => Made w c.vocab.toNat (rowK (smarkZ c zs) c.vocab.toNat) e w' := by
  have := may_parts hm
  exact marks_g p c c.vocab.toNat a len cap zs w hp (by omega) (by omega) (fun _ => hm) ha hlen
theorem marks_nil (w : World) : Calls Tryz.prog 65 #[.pointer none, .slice none 0 0] w fun e w' => ∃ a c, e = .returned (.slice a 0 c) ∧ Below w.heap.size w w' :=
  (marks_g none ⟨0, 0, 0, 0, 0, 0⟩ 0 none 0 0 [] w (.inl ⟨rfl, rfl⟩) rfl (by omega) (fun h => absurd h (by omega)) (Reads.nil _ _) (by omega)).mono fun e w' ⟨g, c, h1, h2, h3⟩ => ⟨_, _, h1, h3⟩

end Go.Proofs.YtdomjdfancpbbaaGreat
namespace Go.Proofs.YtdomjdfancpbbaaGreat
open Go.RowKit
set_option linter.unusedVariables false
set_option maxRecDepth 1000000

/-- What comes next. -/
noncomputable def nextZ (c : Cf) (zs : List Int) (s p : Int) : Int := drawZ (rowK (smarkZ c zs) c.vocab.toNat) c.top c.heat s p

set_option maxHeartbeats 1000000 in
theorem snext_any (pm : Option Addr) (c : Cf) (a : Option Addr) (len cap : Nat) (zs : List Int) (s0 p0 : Int) (w : World) (hp : MdAt w pm c) (hm : mayB c = true) (ha : Reads .i64 w a len cap zs) (hlen : len ≤ 1000) :
    Calls Tryz.prog 46 #[.pointer pm, .slice a len cap, .int .u64 s0, .int .u64 p0] w fun e w' => e = .returned (.int .i64 (nextZ c zs s0 p0)) ∧ Below w.heap.size w w' := by
  have hmp := may_parts hm
  obtain ⟨V, hV⟩ : ∃ V, c.vocab.toNat = V := ⟨_, rfl⟩
  have hV64 : V ≤ 64 := by omega
  have hC := config_any pm c w hp
  have HMk := hid fun (W : World) (hb : Below w.heap.size w W) => smarks_any pm c a len cap zs W (hp.below hb) hm (ha.below hb) hlen
  rw [hV] at HMk
  have HDr := hid fun (W : World) a' c' (hr : Reads .i64 W a' V c' (rowK (smarkZ c zs) V)) => draw_any a' V c' (rowK (smarkZ c zs) V) c.top c.heat s0 p0 W hr (by omega)
  have HNx : Hid (drawZ (rowK (smarkZ c zs) V) c.top c.heat s0 p0 = nextZ c zs s0 p0) := by unfold Hid nextZ; rw [hV]
  rw [HNx.out] at HDr
  clear ha hm hmp hV HNx hp
  generalize rowK (smarkZ c zs) V = ms at *
  generalize nextZ c zs s0 p0 = td at *
  obtain ⟨s, v, d, l, tt, h⟩ := c
  unfold CfV at hC
  simp only at hC HDr ⊢
  go_enter Tryz.func46, Tryz.ntmps46
  go_wp2_with fail
  refine hC.mono ?_
  rintro e w1 ⟨rfl, hb⟩
  obtain ⟨wA, hwA⟩ : ∃ wA, wA = w1.alloc (.cells #[.int .u64 s, .int .i64 v, .int .i64 d, .int .i64 l, .int .i64 tt, .int .i64 h] 69) := ⟨_, rfl⟩
  have hB1 : Below w1.heap.size w1 wA := by rw [hwA]; exact (Below.refl _ _).alloc (Nat.le_refl _) _
  have HBA := hid (hb.trans (hB1.mono hb.size))
  have HK := hid fun (W : World) (hbW : Below wA.heap.size wA W) => Cf_cells (c := ⟨s, v, d, l, tt, h⟩) (block_below (show wA.heap[w1.heap.size]? = some (.cells (CfV ⟨s, v, d, l, tt, h⟩) 69 (0, 0)) by rw [hwA]; exact heap_alloc_new w1 _) hbW)
  simp only at HK
  have HX : Hid (∀ W : World, Below wA.heap.size wA W → Below w.heap.size w W) := fun W hW => HBA.out.trans (hW.mono HBA.out.size)
  have HV : Hid (Below wA.heap.size wA wA.drew) := (Below.refl _ _).drew
  clear hC hb hB1 HBA
  go_wp2_with fail
  rw [← hwA]
  clear hwA
  go_region_held3 (fun W : World => W.cell? ⟨w1.heap.size, 0, none⟩ = some (.int .u64 s) ∧ W.cell? ⟨w1.heap.size, 1, none⟩ = some (.int .i64 v) ∧ W.cell? ⟨w1.heap.size, 2, none⟩ = some (.int .i64 d) ∧ W.cell? ⟨w1.heap.size, 3, none⟩ = some (.int .i64 l) ∧ W.cell? ⟨w1.heap.size, 4, none⟩ = some (.int .i64 tt) ∧ W.cell? ⟨w1.heap.size, 5, none⟩ = some (.int .i64 h)) (first | (with_reducible exact HK.out _ (Below.refl _ _)) | (with_reducible exact HK.out _ HV.out))
    (first
      | (go_at_call 65; (with_reducible refine (HMk.out _ (HX.out _ HV.out)).mono ?_); rintro e y1 ⟨g1, q1, rfl, ho, hb⟩; replace HV := hid (HV.out.trans (hb.mono HV.out.size)); have HR1 := hid ho.reads; clear hb ho)
      | (go_at_call 64; (with_reducible refine (HDr.out _ _ _ HR1.out).mono ?_); rintro e y2 ⟨rfl, hb⟩; replace HV := hid (HV.out.trans (hb.mono HV.out.size)); clear hb))
  all_goals
    go_wp2_with fail
    go_ret
    exact ⟨rfl, HX.out _ HV.out⟩
end Go.Proofs.YtdomjdfancpbbaaGreat
namespace Go.Proofs.YtdomjdfancpbbaaGreat
open Go.RowKit
set_option linter.unusedVariables false
set_option maxRecDepth 1000000

/-- The vector of a text's place: its token's and the place's, added. -/
def tvL (c : Cf) (ts : List Int) (i : Nat) : List Int := addL (tokL c (ts[i]?.getD 0)) (plL c i)
/-- The vectors of a text. -/
def tvsL (c : Cf) (ts : List Int) : List (List Int) := tblK (tvL c ts) ts.length
theorem tvsL_at (c : Cf) (ts : List Int) {i : Nat} (h : i < ts.length) : (tvsL c ts)[i]?.getD [] = tvL c ts i := tblK_at _ h
/-- What comes of the last one of the first k places. -/
def outK (c : Cf) (ts : List Int) : Nat → List Int
  | 0 => []
  | k + 1 => madeL c c.layers.toNat (tvsL c ts) k
/-- The next token of a text. -/
noncomputable def toldZ (c : Cf) (ts : List Int) (seed : Int) : Int := nextZ c (outK c ts ts.length) seed ts.length
/-- What follows a text: at most m tokens. -/
noncomputable def refL (c : Cf) (seed : Int) : List Int → Nat → List Int
  | _, 0 => []
  | ts, m + 1 => if 256 ≤ ts.length then [] else if toldZ c ts seed = 0 then [] else toldZ c ts seed :: refL c seed (ts ++ [toldZ c ts seed]) m
/-- A job may be. -/
def mayJ (v most : Int) (ts : List Int) : Bool := decide (0 ≤ most) && (decide (most ≤ 256) && (decide (ts.length ≤ 255) && ts.all fun t => decide (0 ≤ t) && decide (t < v)))

theorem tvL_len {c : Cf} (h : mayB c = true) (ts : List Int) (i : Nat) : (tvL c ts i).length ≤ 16 := by
  unfold tvL; rw [addL_len]; have := tokL_len h (ts[i]?.getD 0); omega
theorem tvs_len {c : Cf} (h : mayB c = true) (ts : List Int) (i : Nat) : ((tvsL c ts)[i]?.getD []).length ≤ 16 := by
  by_cases hi : i < ts.length
  · rw [tvsL_at c ts hi]; exact tvL_len h ts i
  · rw [List.getElem?_eq_none (by unfold tvsL; rw [tblK_len]; omega)]; simp
theorem outK_len {c : Cf} (h : mayB c = true) (ts : List Int) (k : Nat) : (outK c ts k).length ≤ 16 := by
  cases k with
  | zero => simp [outK]
  | succ k => exact Nat.le_trans (thrX_len _ _ _ _) (tvs_len h ts k)
theorem memL_ext (c : Cf) (L : Nat) {xs ys : List (List Int)} : ∀ k, (∀ i, i < k → xs[i]?.getD [] = ys[i]?.getD []) → memL c L xs k = memL c L ys k := by
  intro k
  induction k with
  | zero => intro _; rfl
  | succ k ih => intro h; simp only [memL]; rw [ih fun i hi => h i (by omega), h k (by omega)]
theorem madeL_ext (c : Cf) (L : Nat) {xs ys : List (List Int)} {k : Nat} (h : ∀ i, i < k + 1 → xs[i]?.getD [] = ys[i]?.getD []) : madeL c L xs k = madeL c L ys k := by
  unfold madeL; rw [memL_ext c L k fun i hi => h i (by omega), h k (by omega)]
/-- A text's beginning has the same vectors. -/
theorem tvs_app (c : Cf) (ts us : List Int) {i : Nat} (h : i < ts.length) : (tvsL c (ts ++ us))[i]?.getD [] = (tvsL c ts)[i]?.getD [] := by
  rw [tvsL_at _ _ h, tvsL_at _ _ (by rw [List.length_append]; omega)]
  unfold tvL
  rw [List.getElem?_append_left h]
theorem memL_app (c : Cf) (L : Nat) (ts us : List Int) {k : Nat} (h : k ≤ ts.length) : memL c L (tvsL c (ts ++ us)) k = memL c L (tvsL c ts) k := memL_ext c L k fun i hi => tvs_app c ts us (by omega)
theorem outK_app (c : Cf) (ts us : List Int) {k : Nat} (h : k ≤ ts.length) : outK c (ts ++ us) k = outK c ts k := by
  cases k with
  | zero => rfl
  | succ k => exact madeL_ext c _ fun i hi => tvs_app c ts us (by omega)

theorem refL_succ (c : Cf) (seed : Int) (ts : List Int) (m : Nat) : refL c seed ts (m + 1) = if 256 ≤ ts.length then [] else if toldZ c ts seed = 0 then [] else toldZ c ts seed :: refL c seed (ts ++ [toldZ c ts seed]) m := rfl
theorem refL_len (c : Cf) (seed : Int) : ∀ m ts, (refL c seed ts m).length ≤ m := by
  intro m
  induction m with
  | zero => intro ts; simp [refL]
  | succ m ih =>
    intro ts
    rw [refL_succ]
    split
    · simp
    · split
      · simp
      · have := ih (ts ++ [toldZ c ts seed]); simp; omega
/-- With a lesser most: the beginning. -/
theorem refL_less (c : Cf) (seed : Int) : ∀ m ts k, k ≤ m → refL c seed ts k = (refL c seed ts m).take k := by
  intro m
  induction m with
  | zero =>
    intro ts k hk
    obtain rfl : k = 0 := by omega
    simp [refL]
  | succ m ih =>
    intro ts k hk
    cases k with
    | zero => simp [refL]
    | succ k =>
      rw [refL_succ, refL_succ]
      by_cases h1 : 256 ≤ ts.length
      · rw [if_pos h1, if_pos h1]; simp
      · rw [if_neg h1, if_neg h1]
        by_cases h2 : toldZ c ts seed = 0
        · rw [if_pos h2, if_pos h2]; simp
        · rw [if_neg h2, if_neg h2, List.take_succ_cons, ih _ k (by omega)]
/-- Behind the first k tokens of what follows: its rest. -/
theorem refL_rest (c : Cf) (seed : Int) : ∀ k m ts, k ≤ (refL c seed ts m).length → (refL c seed ts m).drop k = refL c seed (ts ++ (refL c seed ts m).take k) (m - k) := by
  intro k
  induction k with
  | zero => intro m ts _; simp
  | succ k ih =>
    intro m ts h
    cases m with
    | zero => simp [refL] at h
    | succ m =>
      rw [refL_succ] at h ⊢
      by_cases h1 : 256 ≤ ts.length
      · rw [if_pos h1] at h; simp at h
      · rw [if_neg h1] at h ⊢
        by_cases h2 : toldZ c ts seed = 0
        · rw [if_pos h2] at h; simp at h
        · rw [if_neg h2] at h ⊢
          simp only [List.length_cons] at h
          rw [List.drop_succ_cons, List.take_succ_cons, Nat.add_sub_add_right, ih m _ (by omega), List.append_assoc]
          rfl
/-- Whether nothing follows any more. -/
theorem refL_stop {c : Cf} {seed : Int} {ts : List Int} {m : Nat} (h : m = 0 ∨ 256 ≤ ts.length ∨ toldZ c ts seed = 0) : refL c seed ts m = [] := by
  cases m with
  | zero => rfl
  | succ m =>
    rw [refL_succ]
    by_cases h1 : 256 ≤ ts.length
    · rw [if_pos h1]
    · rw [if_neg h1, if_pos (by omega)]
theorem refL_go {c : Cf} {seed : Int} {ts : List Int} {m : Nat} (h1 : ts.length < 256) (h2 : toldZ c ts seed ≠ 0) : refL c seed ts (m + 1) = toldZ c ts seed :: refL c seed (ts ++ [toldZ c ts seed]) m := by
  rw [refL_succ, if_neg (by omega), if_neg h2]
end Go.Proofs.YtdomjdfancpbbaaGreat
namespace Go.Proofs.YtdomjdfancpbbaaGreat
open Go.RowKit
set_option linter.unusedVariables false
set_option maxRecDepth 1000000

theorem new_two (w : World) (x y : Value) (T : TypeId) : (w.alloc (.cells #[x, y] T)).cell? ⟨w.heap.size, 0, none⟩ = some x ∧ (w.alloc (.cells #[x, y] T)).cell? ⟨w.heap.size, 1, none⟩ = some y := two_cells (heap_alloc_new w _)
end Go.Proofs.YtdomjdfancpbbaaGreat
namespace Go.Proofs.YtdomjdfancpbbaaGreat
open Go.RowKit
set_option linter.unusedVariables false
set_option maxRecDepth 1000000

theorem mayJ_iff {v most : Int} {ts : List Int} : mayJ v most ts = true ↔ 0 ≤ most ∧ most ≤ 256 ∧ ts.length ≤ 255 ∧ ∀ i, i < ts.length → 0 ≤ ts[i]?.getD 0 ∧ ts[i]?.getD 0 < v := by
  unfold mayJ
  simp only [Bool.and_eq_true, decide_eq_true_eq, List.all_eq_true]
  refine ⟨fun ⟨h1, h2, h3, h4⟩ => ⟨h1, h2, h3, fun i hi => ?_⟩, fun ⟨h1, h2, h3, h4⟩ => ⟨h1, h2, h3, fun t ht => ?_⟩⟩
  · rw [List.getElem?_eq_getElem hi]; exact h4 _ (List.getElem_mem hi)
  · obtain ⟨i, hi, rfl⟩ := List.getElem_of_mem ht
    have := h4 i hi
    rwa [List.getElem?_eq_getElem hi] at this
theorem mayJ_no {v most : Int} {ts : List Int} (h : ¬ (0 ≤ most ∧ most ≤ 256 ∧ ts.length ≤ 255 ∧ ∀ i, i < ts.length → 0 ≤ ts[i]?.getD 0 ∧ ts[i]?.getD 0 < v)) : mayJ v most ts = false := by
  rw [Bool.eq_false_iff]; exact fun e => h (mayJ_iff.1 e)

/-- How long a slice is. -/
def slen : Value → Nat
  | .slice _ n _ => n
  | _ => 0
theorem own_slen {w : World} {base e n : Nat} {v : Value} {xs : List Value} (h : w.ownsRow base e 1 v n xs) : slen v = n := by
  rcases id h.2 with ⟨rfl, rfl⟩ | ⟨g, c, cur, rfl, _⟩
  · rfl
  · rfl
theorem own_apart {w w' : World} {b1 b2 e n1 n2 : Nat} {u v : Value} {xs ys : List Value} (hu : w.ownsRow b1 e 1 u n1 xs) (hv : w.ownsRow b2 e 1 v n2 ys) (hap : Apart u v) (hg : w.grownBy w' u.ownBlock) : w'.ownsRow b2 e 1 v n2 ys :=
  hv.kept hg (by
    cases ho : v.ownBlock with
    | none => exact .inl rfl
    | some o => exact .inr fun e => hap o e.symm ho)
theorem two_app {S e n1 n2 : Nat} {wA w2 w3 : World} {u v u' : Value} {xs ys : List Value} {o : Obj} (h1 : w2.ownsRow S e 1 u n1 xs) (h2 : w2.ownsRow S e 1 v n2 ys) (hap : Apart u v) (hW : Below S wA w2) (hS : S ≤ w2.heap.size) (hg : (w2.alloc o).grownBy w3 u.ownBlock) (hm : Moved (w2.alloc o) u u') :
    w3.ownsRow S e 1 v n2 ys ∧ Apart u' v ∧ Below S wA w3 ∧ S ≤ w3.heap.size := by
  have ha : Below w2.heap.size w2 (w2.alloc o) := (Below.refl _ _).alloc (Nat.le_refl _) _
  have k1 := own_below h1 ha
  have k2 := own_below h2 ha
  have hs3 : S ≤ (w2.alloc o).heap.size := Nat.le_trans hS ha.size
  refine ⟨own_apart k1 k2 hap hg, hap.moved hm k2, (hW.trans (ha.mono hS)).grown hg hs3 fun g hg => (k1.lt g hg).1, Nat.le_trans hs3 hg.size⟩
/-- What stands between the tokens that follow. -/
def RfAt (wA : World) (ts us : List Int) (u5 u6 : Value) (W : World) : Prop :=
  W.ownsRow wA.heap.size 3 1 u5 (ts.length + us.length) ((ts ++ us).map (Value.int .i64)) ∧ W.ownsRow wA.heap.size 3 1 u6 us.length (us.map (Value.int .i64)) ∧ Apart u5 u6 ∧ Below wA.heap.size wA W
end Go.Proofs.YtdomjdfancpbbaaGreat
namespace Go.Proofs.YtdomjdfancpbbaaGreat
open Go.RowKit
set_option linter.unusedVariables false
set_option maxRecDepth 1000000

theorem moved_pos {w w' : World} {e n : Nat} {v v' : Value} {xs : List Value} (h : w'.ownsRow w.heap.size e 1 v' n xs) (hn : 0 < n) : Moved w v v' := by
  right
  rcases id h.2 with ⟨_, h0⟩ | ⟨g, cap, cur, rfl, hb, _⟩
  · omega
  · exact ⟨g, rfl, hb⟩
theorem append_ints2 {P : Program} (w : World) {ops : Array Oper} {rest : List Oper} {o : Oper} {a : Act} {Q : Exit → Act → World → Prop} (hgd : o.guard = none) (s x : Operand) (t : TypeId)
    (ho : o.op = .call { callee := .builtin .append, args := #[s, x], argTypes := #[t, t] })
    (base : Nat) (e : TypeId) (i : TypeInfo) (z : Value) (bytes : Nat) (ht : P.underlying t = some (.slice e)) (hi : P.info? e = some i) (hz : i.zero = some z) (hsize : i.size = 1) (hby : i.bytes = bytes) (hzs : z.cells.size = 1) (hbt : bytes ≤ 24) (k : IntKind)
    (v : Value) (n : Nat) (xs : List Int) (hv : a.eval s = v) (hown : w.ownsRow base e 1 v n (xs.map (Value.int k)))
    (ao : Option Addr) (m c : Nat) (news : List Int) (hx : a.eval x = .slice ao m c) (hr : Reads k w ao m c news) (hnm : n + m ≤ 100000) (hbase : base ≤ w.heap.size)
    (h : ∀ v' w', w'.ownsRow base e 1 v' (n + m) ((xs ++ news).map (Value.int k)) → w.grownBy w' v.ownBlock → Moved w v v' → wpList P ops Q rest (a.put o.dst v') w') : wpList P ops Q (o :: rest) a w := by
  have hbytes : (n + m) * bytes ≤ 140737488355328 := by have : (n + m) * bytes ≤ (n + m) * 24 := Nat.mul_le_mul_left _ hbt; omega
  cases ao with
  | none =>
    obtain ⟨rfl, rfl⟩ := hr.bare rfl
    have hn : news = [] := List.eq_nil_of_length_eq_zero hr.size
    subst hn
    exact wpList_append_own_none hgd s x t ho base e i 1 ht hi v n _ hv hown hx (h v w (by simpa using hown) ⟨rfl, rfl, rfl, Nat.le_refl _, fun _ _ _ => rfl⟩ (.inl rfl))
  | some ad =>
    have hnl : (news.map (Value.int k)).length = m * 1 := by simpa using hr.size
    rcases id hown.2 with ⟨rfl, rfl⟩ | ⟨g, cap, cur, rfl, hbg, hg, hnc, hcm, hcs, htake⟩
    · obtain rfl : xs = [] := List.eq_nil_of_length_eq_zero (by simpa using hown.1)
      refine wpList_append_own w hgd s x t ho w.heap.size e i z 1 bytes ht hi hz hsize hby hzs (by decide) _ 0 [] hv (World.ownsRow_nil _ _ _ _) ad m c (news.map (Value.int k)) hx hnl hr.news (ints_oneCell k news) (by unfold maxLen; omega) hbytes (Nat.le_refl _) ?_
      intro v' w' h1 h2 h3
      refine h v' w' (own_base (by simpa using h1) hbase) h2 ?_
      by_cases hm : m = 0
      · left; rw [(h3.2 ⟨rfl, hm⟩)]
      · exact moved_pos h1 (by omega)
    · by_cases hroom : n + m ≤ cap
      · refine wpList_append_fits w hgd s x t ho base e i 1 ht hi hsize g n cap _ hv hown ad m c (news.map (Value.int k)) hx hnl hr.news (ints_oneCell k news) hroom ?_
        intro w' k1 k2
        exact h _ w' (by rw [List.map_append]; exact k1) k2 (.inl rfl)
      · refine wpList_append_grows w hgd s x t ho e i z 1 bytes ht hi hz hsize hby hzs (by decide) (some ⟨g, 0, none⟩) n cap (xs.map (Value.int k)) hv (fun e => by cases e) (by simpa using hown.1) (fun b hb => by cases hb; exact hown.cells (g := g) rfl) ad m c (news.map (Value.int k)) hx hnl hr.news (ints_oneCell k news) (by omega) (by unfold maxLen; omega) hbytes ?_
        intro v' w' k1 k2
        exact h v' w' (own_base (by rw [List.map_append]; exact k1) hbase) ⟨k2.os, k2.tape, k2.output, k2.size, fun k hk _ => k2.block k hk (by simp)⟩ (moved_pos k1 (by omega))
end Go.Proofs.YtdomjdfancpbbaaGreat
namespace Go.Proofs.YtdomjdfancpbbaaGreat
open Go.RowKit
set_option linter.unusedVariables false
set_option maxRecDepth 1000000

theorem falls_insert (x : Mk) : ∀ qs : List Mk, Falls qs → ∃ rs : List Mk, rs.Perm (x :: qs) ∧ Falls rs := by
  intro qs
  induction qs with
  | nil => intro _; exact ⟨[x], List.Perm.refl _, List.pairwise_singleton _ _⟩
  | cons q qs ih =>
    intro h
    obtain ⟨h1, h2⟩ := List.pairwise_cons.1 h
    rcases leM_total q x with hq | hq
    · refine ⟨x :: q :: qs, List.Perm.refl _, List.pairwise_cons.2 ⟨fun y hy => ?_, h⟩⟩
      rcases List.mem_cons.1 hy with rfl | hy
      · exact hq
      · exact leM_trans (h1 y hy) hq
    · obtain ⟨rs, hp, hf⟩ := ih h2
      refine ⟨q :: rs, (hp.cons q).trans (List.Perm.swap _ _ _), List.pairwise_cons.2 ⟨fun y hy => ?_, hf⟩⟩
      rcases List.mem_cons.1 (hp.subset hy) with rfl | hy
      · exact hq
      · exact h1 y hy
theorem falls_any (ms : List Mk) : ∃ qs : List Mk, qs.Perm ms ∧ Falls qs := by
  induction ms with
  | nil => exact ⟨[], List.Perm.refl _, List.Pairwise.nil⟩
  | cons m ms ih =>
    obtain ⟨qs, hp, hf⟩ := ih
    obtain ⟨rs, hp2, hf2⟩ := falls_insert m qs hf
    exact ⟨rs, hp2.trans (hp.cons m), hf2⟩
theorem top_ex (zs : List Int) (n K : Nat) (h : K ≤ n) : ∃ ps, TopOf zs n K ps := by
  obtain ⟨qs, hp, hf⟩ := falls_any (marksK zs n)
  have hl : qs.length = n := by rw [hp.length_eq, marksK_len]
  refine ⟨(qs.take K).map Prod.fst, qs.take K, qs.drop K, rfl, by rw [List.length_take]; omega, hf.take, by rw [List.take_append_drop]; exact hp, fun r hr q hq => ?_⟩
  have : Falls (qs.take K ++ qs.drop K) := by rw [List.take_append_drop]; exact hf
  exact (List.pairwise_append.1 this).2.2 q hq r hr
theorem first_ex {ws : List Int} {d : Int} : ∀ n, 0 ≤ d → d < sumK ws n → ∃ k, FirstAt ws n d k := by
  intro n
  induction n with
  | zero => intro d0 hd; simp only [sumK] at hd; omega
  | succ n ih =>
    intro d0 hd
    by_cases h : ∀ j, j < n → sumK ws (j + 1) ≤ d
    · exact ⟨n, by omega, hd, h⟩
    · cases n with
      | zero => exact absurd (fun j hj => absurd hj (by omega)) h
      | succ m =>
        by_cases h2 : d < sumK ws (m + 1)
        · obtain ⟨k, hk⟩ := ih d0 h2
          exact ⟨k, by have := hk.lt; omega, hk.up, hk.low⟩
        · have : ∃ j, j < m + 1 ∧ d < sumK ws (j + 1) := Classical.byContradiction fun hn => h fun j hj => Int.not_lt.1 fun hlt => hn ⟨j, hj, hlt⟩
          obtain ⟨j, hj, hlt⟩ := this
          -- the least such place
          have key : ∀ j, j < m + 2 → d < sumK ws (j + 1) → ∃ k, FirstAt ws (m + 2) d k := by
            intro j
            induction j using Nat.strongRecOn with
            | _ j ihj =>
              intro hj hlt
              by_cases hl : ∀ i, i < j → sumK ws (i + 1) ≤ d
              · exact ⟨j, hj, hlt, hl⟩
              · have : ∃ i, i < j ∧ d < sumK ws (i + 1) := Classical.byContradiction fun hn => hl fun i hi => Int.not_lt.1 fun hlt => hn ⟨i, hi, hlt⟩
                obtain ⟨i, hi, hlt'⟩ := this
                exact ihj i hi (by omega) hlt'
          exact key j (by omega) hlt
theorem best_ex (zs : List Int) : ∃ t, BestOf zs t := by
  by_cases h : zs = []
  · exact ⟨-1, .inl ⟨h, rfl⟩⟩
  · have hl : 0 < zs.length := List.length_pos_iff.2 h
    obtain ⟨ps, hp⟩ := top_ex zs zs.length 1 hl
    have := hp.len
    match ps, this with
    | [x], _ => exact ⟨x, .inr ⟨hl, hp⟩⟩
theorem draw_ex (zs : List Int) (top heat s p : Int) : ∃ t, DrawOf zs top heat s p t := by
  by_cases h : zs = [] ∨ heat < 1
  · obtain ⟨t, ht⟩ := best_ex zs
    exact ⟨t, .inl ⟨h, ht⟩⟩
  · have h0 : 0 < zs.length := List.length_pos_iff.2 fun e => h (.inl e)
    obtain ⟨K, hK, hKl⟩ := kof_any (mx1 top) zs.length
    have hK0 := kof_pos hK h0
    obtain ⟨ps, hp⟩ := top_ex zs zs.length K hKl
    obtain ⟨d0, d1⟩ := below_sum (zs := zs) (heat := heat) s p hp.len hK0
    obtain ⟨k, hk⟩ := first_ex K d0 d1
    exact ⟨_, .inr ⟨h0, by omega, K, k, ps, hK, hp, hk, rfl⟩⟩
theorem best_bd {zs : List Int} {t : Int} (h : BestOf zs t) (h0 : 0 < zs.length) : 0 ≤ t ∧ t < zs.length := by
  rcases h with ⟨rfl, _⟩ | ⟨_, hp⟩
  · simp at h0
  · obtain ⟨m, h1, h2⟩ := hp.at (i := 0) (by omega)
    simp at h1
    omega
theorem draw_bd {zs : List Int} {top heat s p t : Int} (h : DrawOf zs top heat s p t) (h0 : 0 < zs.length) : 0 ≤ t ∧ t < zs.length := by
  rcases h with ⟨_, hb⟩ | ⟨_, _, K, k, ps, _, hp, hk, rfl⟩
  · exact best_bd hb h0
  · obtain ⟨m, h1, h2⟩ := hp.at hk.lt
    omega
theorem next_bd {c : Cf} (hc : mayB c = true) (zs : List Int) (s p : Int) : 0 ≤ nextZ c zs s p ∧ nextZ c zs s p < c.vocab := by
  have hm := may_parts hc
  obtain ⟨t, ht⟩ := draw_ex (rowK (smarkZ c zs) c.vocab.toNat) c.top c.heat s p
  unfold nextZ
  rw [ht.eq]
  have := draw_bd ht (by rw [rowK_len]; omega)
  rw [rowK_len] at this
  omega
theorem told_bd {c : Cf} (hc : mayB c = true) (ts : List Int) (seed : Int) : 0 ≤ toldZ c ts seed ∧ toldZ c ts seed < c.vocab := next_bd hc _ _ _
theorem refL_in {c : Cf} (hc : mayB c = true) (seed : Int) : ∀ m ts i, i < (refL c seed ts m).length → 0 ≤ (refL c seed ts m)[i]?.getD 0 ∧ (refL c seed ts m)[i]?.getD 0 < c.vocab := by
  intro m
  induction m with
  | zero => intro ts i h; simp [refL] at h
  | succ m ih =>
    intro ts i h
    rw [refL_succ] at h ⊢
    by_cases h1 : 256 ≤ ts.length
    · rw [if_pos h1] at h; simp at h
    · rw [if_neg h1] at h ⊢
      by_cases h2 : toldZ c ts seed = 0
      · rw [if_pos h2] at h; simp at h
      · rw [if_neg h2] at h ⊢
        cases i with
        | zero => simpa using told_bd hc ts seed
        | succ i => simpa using ih _ i (by simpa using h)
theorem refL_most (c : Cf) (seed : Int) : ∀ m ts, ts.length ≤ 256 → ts.length + (refL c seed ts m).length ≤ 256 := by
  intro m
  induction m with
  | zero => intro ts h; simp [refL]; omega
  | succ m ih =>
    intro ts h
    rw [refL_succ]
    by_cases h1 : 256 ≤ ts.length
    · rw [if_pos h1]; simp; omega
    · rw [if_neg h1]
      by_cases h2 : toldZ c ts seed = 0
      · rw [if_pos h2]; simp; omega
      · rw [if_neg h2]
        have := ih (ts ++ [toldZ c ts seed]) (by simp; omega)
        simp at this ⊢
        omega
/-- What follows is what follows at first, and its rest. -/
theorem refL_step (c : Cf) (seed : Int) (ts : List Int) (m k : Nat) : refL c seed ts m = refL c seed ts (min m k) ++ refL c seed (ts ++ refL c seed ts (min m k)) (m - (refL c seed ts (min m k)).length) := by
  have h1 := refL_less c seed m ts (min m k) (Nat.min_le_left _ _)
  have hl : (refL c seed ts (min m k)).length ≤ (refL c seed ts m).length := by rw [h1, List.length_take]; omega
  have h2 := refL_rest c seed (refL c seed ts (min m k)).length m ts hl
  have h3 : (refL c seed ts m).take (refL c seed ts (min m k)).length = refL c seed ts (min m k) := by
    conv => lhs; rw [h1]
    rw [List.length_take]
    conv => rhs; rw [h1]
    rcases Nat.le_total (min m k) (refL c seed ts m).length with hh | hh
    · rw [Nat.min_eq_left hh]
    · rw [Nat.min_eq_right hh, List.take_length, List.take_of_length_le hh]
  rw [h3] at h2
  rw [← h2]
  conv => lhs; rw [← List.take_append_drop (refL c seed ts (min m k)).length (refL c seed ts m), h3]
end Go.Proofs.YtdomjdfancpbbaaGreat
namespace Go.Proofs.YtdomjdfancpbbaaGreat
open Go.RowKit
set_option linter.unusedVariables false
set_option maxRecDepth 1000000

/-- The block is none of ints. -/
def NotInt (w : World) (k : Nat) : Prop := ∃ cur t fz, w.heap[k]? = some (.cells cur t fz) ∧ t ≠ 3
theorem NotInt.own {w : World} {base n b : Nat} {v : Value} {xs : List Value} (h : w.ownsRow base 3 1 v n xs) (hb : v.ownBlock = some b) : ¬ NotInt w b := by
  rintro ⟨cur, t, fz, h1, h2⟩
  obtain ⟨c, hc⟩ := own_type h hb
  rw [hc] at h1
  simp at h1
  exact h2 h1.2.1.symm
theorem NotInt.lt {w : World} {k : Nat} (h : NotInt w k) : k < w.heap.size := by
  obtain ⟨cur, t, fz, h1, _⟩ := h
  exact lt_of_block h1
theorem NotInt.back {w w' : World} {k : Nat} (h : NotInt w' k) (hb : Below w.heap.size w w') (hk : k < w.heap.size) : NotInt w k := by
  obtain ⟨cur, t, fz, h1, h2⟩ := h
  exact ⟨cur, t, fz, (hb.block k hk).symm.trans h1, h2⟩
/-- The blocks of a pointer. -/
def mF (p : Option Addr) (k : Nat) : Prop := ∃ a, p = some a ∧ a.block = k
/-- What came of each place of a text. -/
def outsL (c : Cf) (ts : List Int) : List (List Int) := tblK (fun k => outK c ts (k + 1)) ts.length
theorem outsL_len (c : Cf) (ts : List Int) : (outsL c ts).length = ts.length := tblK_len _ _
theorem outsL_at (c : Cf) (ts : List Int) {i : Nat} (h : i < ts.length) : (outsL c ts)[i]?.getD [] = outK c ts (i + 1) := tblK_at _ h
theorem outsL_snoc (c : Cf) (ts : List Int) (t : Int) : outsL c ts ++ [outK c (ts ++ [t]) (ts.length + 1)] = outsL c (ts ++ [t]) := by
  have h : outsL c ts = tblK (fun k => outK c (ts ++ [t]) (k + 1)) ts.length := by
    unfold outsL tblK
    apply List.map_congr_left
    intro k hk
    rw [List.mem_range] at hk
    exact (outK_app c ts [t] (by omega)).symm
  rw [h]
  unfold outsL
  rw [List.length_append, List.length_singleton]
  exact tblK_snoc (fun k => outK c (ts ++ [t]) (k + 1)) ts.length
theorem outsL_take (c : Cf) (ts : List Int) {n : Nat} (h : n ≤ ts.length) : (outsL c ts).take n = outsL c (ts.take n) := by
  have hl : (ts.take n).length = n := by rw [List.length_take]; omega
  unfold outsL tblK
  rw [← List.map_take, List.take_range, hl, Nat.min_eq_left h]
  apply List.map_congr_left
  intro k hk
  rw [List.mem_range] at hk
  have := outK_app c (ts.take n) (ts.drop n) (k := k + 1) (by omega)
  rw [List.take_append_drop] at this
  exact this
theorem memL_take (c : Cf) (ts : List Int) {n : Nat} (h : n ≤ ts.length) : cutM (memL c c.layers.toNat (tvsL c ts) ts.length) n = memL c c.layers.toNat (tvsL c (ts.take n)) (ts.take n).length := by
  have hl : (ts.take n).length = n := by rw [List.length_take]; omega
  rw [memL_cut c _ _ h]
  have := memL_app c c.layers.toNat (ts.take n) (ts.drop n) (k := n) (by omega)
  rw [List.take_append_drop] at this
  rw [this, hl]

/-- What a state holds: its struct's cells, its model, its tokens, what came of each place, its memory. -/
structure StIn (W : World) (g : Nat) (pm ta : Option Addr) (tc : Nat) (ha : Option Addr) (hc : Nat) (pq : Option Addr) (c : Cf) (ts : List Int) : Prop where
  var : W.heap[g]? = some (.cells #[.pointer pm, .slice ta ts.length tc, .slice ha ts.length hc, .pointer pq] 86 (0, 0))
  md : MdAt W pm c
  tk : Reads .i64 W ta ts.length tc ts
  mks : TbH W (ha, ts.length, hc) (outsL c ts)
  mem : MemAt W pq (memL c c.layers.toNat (tvsL c ts) ts.length)
  bl : ∀ p, ta = some p → ∃ cur fz, W.heap[p.block]? = some (.cells cur 3 fz)
theorem StIn.below {W W' : World} {g : Nat} {pm ta : Option Addr} {tc : Nat} {ha : Option Addr} {hc : Nat} {pq : Option Addr} {c : Cf} {ts : List Int} (h : StIn W g pm ta tc ha hc pq c ts) (hb : Below W.heap.size W W') : StIn W' g pm ta tc ha hc pq c ts :=
  ⟨block_below h.var hb, h.md.below hb, h.tk.below hb, h.mks.below hb, h.mem.below hb, fun p hp => by
    obtain ⟨cur, fz, hc⟩ := h.bl p hp
    exact ⟨cur, fz, block_below hc hb⟩⟩
theorem MdAt.keep {T : TypeId} {W W' : World} {p : Option Addr} {c : Cf} (h : MdAt W p c) (hk : Kp T W W') (hT : 101 ≠ T) : MdAt W' p c := by
  rcases h with h | ⟨g, hp, hg⟩
  · exact .inl h
  · exact .inr ⟨g, hp, hk _ _ _ _ hg hT⟩
theorem Reads.same {k : IntKind} {W W' : World} {a : Option Addr} {l c : Nat} {zs : List Int} (hr : Reads k W a l c zs) (hb : ∀ x, mF a x → W'.heap[x]? = W.heap[x]?) : Reads k W' a l c zs :=
  ⟨hr.size, hr.room, hr.most, hr.bare, fun i hi => by
    obtain ⟨b, off, ha, hc⟩ := hr.cell i hi
    exact ⟨b, off, ha, (World.cell?_of_block (a := ⟨b, off + i, none⟩) (hb b ⟨_, ha, rfl⟩)).trans hc⟩⟩
theorem StIn.keep {W W' : World} {g : Nat} {pm ta : Option Addr} {tc : Nat} {ha : Option Addr} {hc : Nat} {pq : Option Addr} {c : Cf} {ts : List Int} (h : StIn W g pm ta tc ha hc pq c ts) (hk : Kp 3 W W') (hb : ∀ x, mF ta x → W'.heap[x]? = W.heap[x]?) : StIn W' g pm ta tc ha hc pq c ts :=
  ⟨hk _ _ _ _ h.var (by decide), h.md.keep hk (by decide), h.tk.same hb, h.mks.keep hk (by decide) (by decide), h.mem.keep hk (by decide) (by decide) (by decide) (by decide), fun p hp => by
    obtain ⟨cur, fz, hc⟩ := h.bl p hp
    exact ⟨cur, fz, (hb _ ⟨p, hp, rfl⟩).trans hc⟩⟩
/-- A state lies in these blocks alone. -/
def StX (W : World) (p : Option Addr) (c : Cf) (ts : List Int) (F : Nat → Prop) : Prop :=
  ∃ (W0 : World) (g : Nat) (pm ta : Option Addr) (tc : Nat) (ha : Option Addr) (hc : Nat) (pq : Option Addr), p = some ⟨g, 0, none⟩ ∧ StIn W0 g pm ta tc ha hc pq c ts ∧ W0.heap.size ≤ W.heap.size ∧ (∀ k, NotInt W0 k → F k) ∧ (∀ k, mF ta k → F k) ∧ ∀ k, F k → W.heap[k]? = W0.heap[k]?
/-- The state at a pointer: of a model with this configuration, its text; it lies in the blocks F alone. -/
structure StAt (W : World) (p : Option Addr) (c : Cf) (ts : List Int) (F : Nat → Prop) : Prop where
  ptr : ∃ g, p = some ⟨g, 0, none⟩
  one : 1 ≤ ts.length
  most : ts.length ≤ 256
  old : ∀ k, F k → k < W.heap.size
  rest : StX W p c ts F
theorem StAt.same {W W' : World} {p : Option Addr} {c : Cf} {ts : List Int} {F : Nat → Prop} (h : StAt W p c ts F) (hs : W.heap.size ≤ W'.heap.size) (hF : ∀ k, F k → W'.heap[k]? = W.heap[k]?) : StAt W' p c ts F := by
  obtain ⟨W0, g, pm, ta, tc, ha, hc, pq, h1, h2, h3, h4, h5, h6⟩ := h.rest
  exact ⟨h.ptr, h.one, h.most, fun k hk => Nat.lt_of_lt_of_le (h.old k hk) hs, W0, g, pm, ta, tc, ha, hc, pq, h1, h2, Nat.le_trans h3 hs, h4, h5, fun k hk => (hF k hk).trans (h6 k hk)⟩
theorem StAt.below {W W' : World} {p : Option Addr} {c : Cf} {ts : List Int} {F : Nat → Prop} (h : StAt W p c ts F) (hb : Below W.heap.size W W') : StAt W' p c ts F := h.same hb.size fun k hk => hb.block k (h.old k hk)
/-- A row that grows lies apart from a state. -/
theorem StAt.grown {W W2 W' : World} {p : Option Addr} {c : Cf} {ts : List Int} {F : Nat → Prop} {v v' : Value} (h : StAt W p c ts F) (hb : Below W.heap.size W W2) (hg : W2.grownBy W' v.ownBlock) (hm : Moved W2 v v') (hv : ∀ b, v.ownBlock = some b → ¬ F b) : StAt W' p c ts F ∧ ∀ b, v'.ownBlock = some b → ¬ F b := by
  have h2 := h.below hb
  refine ⟨h2.same hg.size fun k hk => hg.block k (h2.old k hk) fun e => hv k e.symm hk, fun b hb' hF => ?_⟩
  rcases hm with hm | ⟨o, hm, hle⟩
  · exact hv b (by rw [← hm]; exact hb') hF
  · rw [hm] at hb'
    cases hb'
    have := h2.old _ hF
    omega
/-- What a state holds, now. -/
theorem StAt.get {W : World} {p : Option Addr} {c : Cf} {ts : List Int} {F : Nat → Prop} (h : StAt W p c ts F) : ∃ (g : Nat) (pm ta : Option Addr) (tc : Nat) (ha : Option Addr) (hc : Nat) (pq : Option Addr), p = some ⟨g, 0, none⟩ ∧ StIn W g pm ta tc ha hc pq c ts ∧ ∀ k, mF ta k → F k := by
  obtain ⟨W0, g, pm, ta, tc, ha, hc, pq, h1, h2, h3, h4, h5, h6⟩ := h.rest
  refine ⟨g, pm, ta, tc, ha, hc, pq, h1, h2.keep (fun k cur t fz hk ht => (h6 k (h4 k ⟨cur, t, fz, hk, ht⟩)).trans hk) (fun x hx => h6 x (h5 x hx)), h5⟩
/-- The blocks that a state lies in. -/
def stF (W : World) (ta : Option Addr) (k : Nat) : Prop := NotInt W k ∨ mF ta k
theorem StIn.at {W : World} {g : Nat} {pm ta : Option Addr} {tc : Nat} {ha : Option Addr} {hc : Nat} {pq : Option Addr} {c : Cf} {ts : List Int} (h : StIn W g pm ta tc ha hc pq c ts) (h1 : 1 ≤ ts.length) (h2 : ts.length ≤ 256) : StAt W (some ⟨g, 0, none⟩) c ts (stF W ta) := by
  refine ⟨⟨g, rfl⟩, h1, h2, fun k hk => ?_, W, g, pm, ta, tc, ha, hc, pq, rfl, h, Nat.le_refl _, fun k hk => .inl hk, fun k hk => .inr hk, fun _ _ => rfl⟩
  rcases hk with hk | ⟨a, rfl, rfl⟩
  · exact hk.lt
  · obtain ⟨b, off, e, hc⟩ := h.tk.cell 0 (by omega)
    cases e
    exact World.block_lt_of_cell? _ _ hc
theorem stF_of {w w' : World} {ta : Option Addr} {F0 : Nat → Prop} (hb : Below w.heap.size w w') (h : ∀ k, mF ta k → F0 k ∨ w.heap.size ≤ k) (k : Nat) (hk : stF w' ta k) : F0 k ∨ w.heap.size ≤ k ∨ NotInt w k := by
  rcases hk with hk | hk
  · rcases Nat.lt_or_ge k w.heap.size with hl | hl
    · exact .inr (.inr (hk.back hb hl))
    · exact .inr (.inl hl)
  · rcases h k hk with h' | h'
    · exact .inl h'
    · exact .inr (.inl h')
/-- A state is handed back. -/
def GivesS (w : World) (F0 : Nat → Prop) (c : Cf) (ts : List Int) (e : Ending) (w' : World) : Prop := ∃ g F, e = .returned (.tuple #[.pointer (some ⟨g, 0, none⟩), .int .i64 0]) ∧ StAt w' (some ⟨g, 0, none⟩) c ts F ∧ (∀ k, F k → F0 k ∨ w.heap.size ≤ k ∨ NotInt w k) ∧ Below w.heap.size w w'
/-- An error is handed back. -/
def GivesE (w : World) (n : Int) (e : Ending) (w' : World) : Prop := e = .returned (.tuple #[.pointer none, .int .i64 n]) ∧ Below w.heap.size w w'
/-- What 'with' hands back. -/
def GivesW (w : World) (pm : Option Addr) (c : Cf) (ts : List Int) (e : Ending) (w' : World) : Prop := ∃ (g : Nat) (ta : Option Addr) (tc : Nat) (ha : Option Addr) (hc : Nat) (pq : Option Addr), e = .returned (.pointer (some ⟨g, 0, none⟩)) ∧ StIn w' g pm ta tc ha hc pq c ts ∧ (∀ k, mF ta k → w.heap.size ≤ k) ∧ Below w.heap.size w w'
theorem StIn.cells {W : World} {g : Nat} {pm ta : Option Addr} {tc : Nat} {ha : Option Addr} {hc : Nat} {pq : Option Addr} {c : Cf} {ts : List Int} (h : StIn W g pm ta tc ha hc pq c ts) :
    W.cell? ⟨g, 0, none⟩ = some (.pointer pm) ∧ W.cell? ⟨g, 1, none⟩ = some (.slice ta ts.length tc) ∧ W.cell? ⟨g, 2, none⟩ = some (.slice ha ts.length hc) ∧ W.cell? ⟨g, 3, none⟩ = some (.pointer pq) := by
  refine ⟨?_, ?_, ?_, ?_⟩ <;> (rw [cell_of_row _ _ _ _ _ _ h.var]; rfl)
end Go.Proofs.YtdomjdfancpbbaaGreat
namespace Go.Proofs.YtdomjdfancpbbaaGreat
open Go.RowKit
set_option linter.unusedVariables false
set_option maxRecDepth 1000000

/-- Whether a number is a token. -/
def tokB (v t : Int) : Bool := decide (0 ≤ t) && decide (t < v)
theorem tokB_yes {v t : Int} (h0 : 0 ≤ t) (h1 : t < v) : tokB v t = true := by unfold tokB; simp [h0, h1]
theorem tokB_no {v t : Int} (h : t < 0 ∨ v ≤ t) : tokB v t = false := by
  unfold tokB
  rcases h with h | h
  · simp [show ¬ 0 ≤ t by omega]
  · simp [show ¬ t < v by omega]
theorem istoken_any (c : Cf) (t : Int) (w : World) :
    Calls Tryz.prog 44 #[.agg (CfV c), .int .i64 t] w fun e w' => e = .returned (.bool (tokB c.vocab t)) ∧ Below w.heap.size w w' := by
  have HB : Hid (Below w.heap.size w (w.alloc (.cells (CfV c) 69))) := (Below.refl _ _).alloc (Nat.le_refl _) _
  obtain ⟨s, v, d, l, tt, h⟩ := c
  unfold CfV at *
  simp only at *
  by_cases h1 : (0 : Int) ≤ t
  · by_cases h2 : t < v
    · rw [tokB_yes h1 h2]
      go_enter Tryz.func44, Tryz.ntmps44
      go_wp2
      go_ret
      exact ⟨rfl, HB.out⟩
    · rw [tokB_no (by omega)]
      go_enter Tryz.func44, Tryz.ntmps44
      go_wp2
      go_ret
      exact ⟨rfl, HB.out⟩
  · rw [tokB_no (by omega)]
    go_enter Tryz.func44, Tryz.ntmps44
    go_wp2
    go_ret
    exact ⟨rfl, HB.out⟩
theorem ismodel_any (p : Option Addr) (c : Cf) (w : World) (h : MdAt w p c) :
    Calls Tryz.prog 79 #[.pointer p] w fun e w' => e = .returned (.bool (mayB c)) ∧ Below w.heap.size w w' := by
  have hC := config_any p c w h
  clear h
  go_enter Tryz.func79, Tryz.ntmps79
  go_wp2_with fail
  refine hC.mono ?_
  rintro e w1 ⟨rfl, hb⟩
  go_wp2_with fail
  refine (may_any c w1).mono ?_
  rintro e w2 ⟨rfl, hb2⟩
  have HB := hid (hb.trans (hb2.mono hb.size))
  clear hb hb2 hC
  go_wp2
  go_ret
  exact ⟨rfl, HB.out⟩

set_option maxHeartbeats 1000000 in
theorem dmay_any (c : Cf) (j : Jb) (w : World) (hj : JbIn w j) :
    Calls Tryz.prog 58 #[.agg (CfV c), .agg (JbV j)] w fun e w' => e = .returned (.bool (mayJ c.vocab j.most j.ts)) ∧ Below w.heap.size w w' := by
  obtain ⟨wA, hwA⟩ : ∃ wA, wA = (w.alloc (.cells (CfV c) 69)).alloc (.cells (JbV j) 94) := ⟨_, rfl⟩
  have HB0 : Hid (Below w.heap.size w wA) := by unfold Hid; rw [hwA]; exact ((Below.refl _ _).alloc (Nat.le_refl _) _).alloc (by simp) _
  have HK : Hid (∀ W : World, Below wA.heap.size wA W → (W.cell? ⟨w.heap.size, 0, none⟩ = some (.int .u64 c.seed) ∧ W.cell? ⟨w.heap.size, 1, none⟩ = some (.int .i64 c.vocab) ∧ W.cell? ⟨w.heap.size, 2, none⟩ = some (.int .i64 c.dim) ∧ W.cell? ⟨w.heap.size, 3, none⟩ = some (.int .i64 c.layers) ∧ W.cell? ⟨w.heap.size, 4, none⟩ = some (.int .i64 c.top) ∧ W.cell? ⟨w.heap.size, 5, none⟩ = some (.int .i64 c.heat)) ∧ W.cell? ⟨w.heap.size + 1, 1, none⟩ = some (.slice j.ap j.lp j.cp) ∧ W.cell? ⟨w.heap.size + 1, 2, none⟩ = some (.int .i64 j.most)) := by
    intro W hb
    have e1 : wA.heap[w.heap.size]? = some (.cells (CfV c) 69 (0, 0)) := by rw [hwA, Below.heap_alloc _ _ _ (by simp)]; exact heap_alloc_new w _
    have e2 : wA.heap[w.heap.size + 1]? = some (.cells (JbV j) 94 (0, 0)) := by
      have := heap_alloc_new (w.alloc (.cells (CfV c) 69)) (.cells (JbV j) 94)
      rw [hwA]
      simpa using this
    exact ⟨Cf_cells (block_below e1 hb), (Jb_cells (block_below e2 hb)).2.1, (Jb_cells (block_below e2 hb)).2.2⟩
  have hz := hj.size
  have r1 := hj.room
  have m1 := hj.most
  have HA := hid fun (W : World) (hb : Below wA.heap.size wA W) => (hj.below HB0.out).below hb
  have HT := hid fun (t : Int) (W : World) => istoken_any c t W
  clear hj
  obtain ⟨sd, ap, lp, cp, ts, mo⟩ := j
  obtain ⟨s, v, d, l, tt, h⟩ := c
  obtain ⟨x0, x1, x2⟩ := HK.out wA (Below.refl _ _)
  unfold CfV JbV at hwA
  unfold CfV at HT
  simp only at HK hz r1 m1 HA hwA x1 x2 HT
  unfold CfV JbV
  simp only
  rw [hwA] at x1 x2
  clear x0
  by_cases h3 : 255 < lp
  · rw [mayJ_no (by omega)]
    have HBo := HB0
    have h3' : (255 : Int) < (lp : Int) := by omega
    clear HK HA HT
    go_enter Tryz.func58, Tryz.ntmps58
    go_wp2_with fail
    rw [← hwA]
    clear hwA x1 x2
    go_ret
    exact ⟨rfl, HBo.out⟩
  have h3' : ¬ (255 : Int) < (lp : Int) := by omega
  by_cases h1 : mo < 0
  · rw [mayJ_no (by omega)]
    have HBo := HB0
    clear HK HA HT
    go_enter Tryz.func58, Tryz.ntmps58
    go_wp2_with fail
    rw [← hwA]
    clear hwA x1 x2
    go_ret
    exact ⟨rfl, HBo.out⟩
  by_cases h2 : 256 < mo
  · rw [mayJ_no (by omega)]
    have HBo := HB0
    clear HK HA HT
    go_enter Tryz.func58, Tryz.ntmps58
    go_wp2_with fail
    rw [← hwA]
    clear hwA x1 x2
    go_ret
    exact ⟨rfl, HBo.out⟩
  have HNo := hid fun (i : Nat) (hi : i < lp) (hb : ts[i]?.getD 0 < 0 ∨ v ≤ ts[i]?.getD 0) => mayJ_no (v := v) (most := mo) (ts := ts) (fun hh => by have := hh.2.2.2 i (by omega); omega)
  have HYe : Hid ((∀ i, i < lp → 0 ≤ ts[i]?.getD 0 ∧ ts[i]?.getD 0 < v) → mayJ v mo ts = true) := fun hh => mayJ_iff.2 ⟨by omega, by omega, by omega, by rw [hz]; exact hh⟩
  generalize mayJ v mo ts = bb at *
  go_enter Tryz.func58, Tryz.ntmps58
  go_wp2_with fail
  rw [← hwA]
  clear hwA x1 x2
  go_loopw [24] (fun i W => ∃ k : Nat, k ≤ lp ∧ i = .int .i64 k ∧ Hid (∀ i, i < k → 0 ≤ ts[i]?.getD 0 ∧ ts[i]?.getD 0 < v) ∧ Hid (Below wA.heap.size wA W)) (fun i _ => lp - (intOf i).toNat)
  case atStart => exact ⟨0, Nat.zero_le _, rfl, fun i hi => absurd hi (by omega), Below.refl _ _⟩
  case round =>
  obtain ⟨k, hk, rfl, HL, HW⟩ := hrel
  rename World => wr
  obtain ⟨⟨y0, y1, y2, y3, y4, y5⟩, x1, x2⟩ := HK.out _ HW.out
  by_cases hlt : k < lp
  · obtain ⟨b1, o1, rfl, c1⟩ := (HA.out _ HW.out).cell k hlt
    have q1 : (k : Int) < (lp : Int) := by omega
    replace HT := hid (HT.out (ts[k]?.getD 0))
    by_cases ht : 0 ≤ ts[k]?.getD 0 ∧ ts[k]?.getD 0 < v
    · have HL2 : Hid (∀ i, i < k + 1 → 0 ≤ ts[i]?.getD 0 ∧ ts[i]?.getD 0 < v) := fun i hi => by
        rcases (by omega : i < k ∨ i = k) with h' | rfl
        · exact HL.out i h'
        · exact ht
      rw [tokB_yes ht.1 ht.2] at HT
      clear HNo HYe HK HA HL ht
      generalize ts[k]?.getD 0 = t at *
      go_wp2_with fail
      refine (HT.out _).mono ?_
      rintro e w2 ⟨rfl, hb⟩
      replace HW := hid (HW.out.trans (hb.mono HW.out.size))
      clear hb HT c1 y0 y1 y2 y3 y4 y5 x1 x2
      go_wp2_with fail
      go_round
      case rel => exact ⟨k + 1, by omega, by go_num, HL2, HW⟩
      case measure => simp [intOf]; omega
    · have hn : ts[k]?.getD 0 < 0 ∨ v ≤ ts[k]?.getD 0 := by omega
      obtain rfl := HNo.out k hlt hn
      rw [tokB_no hn] at HT
      clear HNo HYe HK HA HL ht hn
      generalize ts[k]?.getD 0 = t at *
      go_wp2_with fail
      refine (HT.out _).mono ?_
      rintro e w2 ⟨rfl, hb⟩
      have HBW := hid (HB0.out.trans ((HW.out.trans (hb.mono HW.out.size)).mono HB0.out.size))
      clear hb HT HW HB0 c1 y0 y1 y2 y3 y4 y5 x1 x2
      go_wp2
      go_ret
      exact ⟨rfl, HBW.out⟩
  · obtain rfl : k = lp := by omega
    have hb := HYe.out HL.out
    subst hb
    have HBW := hid (HB0.out.trans (HW.out.mono HB0.out.size))
    clear HNo HYe HK HA HL HW HB0 y0 y1 y2 y3 y4 y5 x1 x2 HT
    go_wp2
    go_ret
    exact ⟨rfl, HBW.out⟩

theorem dlen_in {W : World} {g : Nat} {pm ta : Option Addr} {tc : Nat} {ha : Option Addr} {hc : Nat} {pq : Option Addr} {c : Cf} {ts : List Int} (h : StIn W g pm ta tc ha hc pq c ts) :
    Calls Tryz.prog 14 #[.pointer (some ⟨g, 0, none⟩)] W fun e w' => e = .returned (.int .i64 ts.length) ∧ w' = W := by
  obtain ⟨c0, c1, c2, c3⟩ := h.cells
  have r1 := h.tk.room
  have m1 := h.tk.most
  clear h
  generalize ts.length = n at *
  go_enter Tryz.func14, Tryz.ntmps14
  go_wp2
  go_ret
  exact ⟨rfl, rfl⟩
theorem dlen_nil0 (w : World) : Calls Tryz.prog 14 #[.pointer none] w fun e w' => e = .returned (.int .i64 0) ∧ w' = w := by
  go_enter Tryz.func14, Tryz.ntmps14
  go_wp2
  go_ret
  exact ⟨rfl, rfl⟩
theorem dlen_nil (w : World) : Calls Tryz.prog 14 #[.pointer none] w fun e w' => e = .returned (.int .i64 0) ∧ Below w.heap.size w w' :=
  (dlen_nil0 w).mono fun e w' ⟨h1, h2⟩ => ⟨h1, by rw [h2]; exact Below.refl _ _⟩
theorem dlen_any {F : Nat → Prop} (p : Option Addr) (c : Cf) (ts : List Int) (w : World) (hs : StAt w p c ts F) :
    Calls Tryz.prog 14 #[.pointer p] w fun e w' => e = .returned (.int .i64 ts.length) ∧ Below w.heap.size w w' := by
  obtain ⟨g, pm, ta, tc, ha, hc, pq, rfl, h, _⟩ := hs.get
  exact (dlen_in h).mono fun e w' ⟨h1, h2⟩ => ⟨h1, by rw [h2]; exact Below.refl _ _⟩

/-- A copy of a list of ints. -/
theorem cloneI_any (a : Option Addr) (n cap : Nat) (xs : List Int) (w : World) (ha : Reads .i64 w a n cap xs) (hn : n ≤ 1000) :
    Calls Tryz.prog 35 #[.slice a n cap] w fun e w' => Gives w n xs e w' := by
  obtain ⟨i0, hi, hz0, hz1, hz2⟩ := info_parts Tryz.info3
  cases a with
  | none =>
    obtain ⟨rfl, rfl⟩ := ha.bare rfl
    obtain rfl : xs = [] := List.eq_nil_of_length_eq_zero ha.size
    have heq : ∀ W : World, (binOp .eql 34 (.slice none 0 0) (.slice none 0 0)).run Tryz.prog W = .ok (.bool true) W := fun W => Lib.run_eql_slice_nil W _ _ none 0 0 0 0 Tryz.underlying34
    clear ha
    go_enter Tryz.func35, Tryz.ntmps35
    go_wp2
    go_ret
    exact ⟨_, _, rfl, Reads.nil _ _, Below.refl _ _⟩
  | some ad =>
    have heq : ∀ W : World, (binOp .eql 34 (.slice (some ad) n cap) (.slice none 0 0)).run Tryz.prog W = .ok (.bool false) W := fun W => Lib.run_eql_slice_nil W _ _ (some ad) n cap 0 0 Tryz.underlying34
    have HA := hid ha
    have HB : Hid (Below w.heap.size w (w.alloc (.cells #[] 3))) := (Below.refl _ _).alloc (Nat.le_refl _) _
    have HO : Hid ((w.alloc (.cells #[] 3)).ownsRow w.heap.size 3 1 (.slice (some ⟨w.heap.size, 0, none⟩) 0 0) 0 (([] : List Int).map (Value.int .i64))) :=
      World.ownsRow_lit (base := w.heap.size) (e := 3) (size := 1) w #[] 0 (Nat.le_refl _) (by unfold maxLen; omega) (by simp)
    clear ha
    go_enter Tryz.func35, Tryz.ntmps35
    go_wp2_with (at_builtin; refine append_any _ rfl (.tmp 5) (.tmp 6) 34 rfl w.heap.size 3 i0 (.int .i64 0) 8 Tryz.underlying34 hi hz0 hz1 hz2 rfl .i64 _ 0 [] rfl HO.out (some ad) n cap xs rfl (HA.out.below HB.out) (by omega) (by omega) HB.out.size ?_; intro v' w3 hO3 hb3)
    rw [Nat.zero_add, List.nil_append] at hO3
    obtain ⟨a3, c3, rfl, hr3⟩ := Reads.own (k := .i64) hO3
    have HR3 := hid hr3
    have HB3 := hid (HB.out.trans hb3)
    clear hO3 hb3 HA HB HO hr3
    go_wp2
    go_ret
    exact ⟨_, _, rfl, HR3.out, HB3.out⟩
theorem dtok_any {F : Nat → Prop} (p : Option Addr) (c : Cf) (ts : List Int) (w : World) (hs : StAt w p c ts F) :
    Calls Tryz.prog 16 #[.pointer p] w fun e w' => Gives w ts.length ts e w' := by
  have hm := hs.most
  obtain ⟨g, pm, ta, tc, ha, hc, pq, rfl, h, _⟩ := hs.get
  have hC := cloneI_any ta ts.length tc ts w h.tk (by omega)
  obtain ⟨c0, c1, c2, c3⟩ := h.cells
  clear h hs hm
  generalize ts.length = n at *
  go_enter Tryz.func16, Tryz.ntmps16
  go_wp2_with fail
  refine hC.mono ?_
  rintro e w1 ⟨a1, d1, rfl, hr, hb⟩
  have HR := hid hr
  have HB := hid hb
  clear hC hr hb c0 c1 c2 c3
  go_wp2
  go_ret
  exact ⟨_, _, rfl, HR.out, HB.out⟩
theorem dtok_nil (w : World) : Calls Tryz.prog 16 #[.pointer none] w fun e w' => ∃ a cap, e = .returned (.slice a 0 cap) ∧ Below w.heap.size w w' := by
  go_enter Tryz.func16, Tryz.ntmps16
  go_wp2
  go_ret
  exact ⟨_, _, rfl, Below.refl _ _⟩
theorem firsti_any (a : Option Addr) (n cap k : Nat) (w : World) (h1 : k ≤ cap) (m1 : cap ≤ 9223372036854775807) :
    Calls Tryz.prog 49 #[.slice a n cap, .int .i64 k] w fun e w' => e = .returned (.slice a k k) ∧ w = w' := by
  go_enter Tryz.func49, Tryz.ntmps49
  go_wp2
  go_ret
  exact ⟨rfl, rfl⟩
theorem firstr_any (a : Option Addr) (n cap k : Nat) (w : World) (h1 : k ≤ cap) (m1 : cap ≤ 9223372036854775807) :
    Calls Tryz.prog 50 #[.slice a n cap, .int .i64 k] w fun e w' => e = .returned (.slice a k k) ∧ w = w' := by
  go_enter Tryz.func50, Tryz.ntmps50
  go_wp2
  go_ret
  exact ⟨rfl, rfl⟩
end Go.Proofs.YtdomjdfancpbbaaGreat
