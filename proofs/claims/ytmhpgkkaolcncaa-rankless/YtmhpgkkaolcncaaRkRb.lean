/-
  The document's Best.
-/
import Derived.Test.YtmhpgkkaolcncaaRkRs
namespace Go.Proofs.Ytmhpgkkaolcncaa
open Go.RowKit
set_option linter.unusedVariables false
set_option maxRecDepth 1000000

/-- Those that are none of but. -/
def notC (but : List Int) (l : List Cd) : List Cd := l.filter fun c => decide (c.rep ∉ but)
theorem notC_take {but : List Int} {l : List Cd} {k : Nat} (h : k < l.length) : notC but (l.take (k + 1)) = if (ck l k).rep ∈ but then notC but (l.take k) else notC but (l.take k) ++ [ck l k] := by
  unfold notC
  rw [List.take_add_one, ck_get h, List.filter_append]
  split
  · rename_i h; simp [h]
  · rename_i h; simp [h]
theorem notC_len (but : List Int) (l : List Cd) : (notC but l).length ≤ l.length := List.length_filter_le _ _
theorem bestC_some {w : Wt} {l : List Cd} {limit : Int} {but : List Int} {S : List Cd} (hS : ordC w (notC but l) = S) {i : Nat} (hi : i < S.length) (h1 : ∀ j, j < i → ¬ (ck S j).load < limit) (h2 : (ck S i).load < limit) : bestC w l limit but = ((ck S i).rep, true) := by
  have h : S.find? (fun c => decide (c.load < limit)) = some (ck S i) := by
    rw [List.find?_eq_some_iff_getElem]
    refine ⟨by simpa using h2, i, hi, ?_, fun j hj => ?_⟩
    · have := ck_get hi
      rw [List.getElem?_eq_getElem hi] at this
      exact Option.some.inj this
    · have hjl : j < S.length := by omega
      have := ck_get hjl
      rw [List.getElem?_eq_getElem hjl] at this
      rw [Option.some.inj this]
      simpa using h1 j hj
  unfold bestC
  unfold notC at hS
  rw [hS, h]
theorem bestC_none {w : Wt} {l : List Cd} {limit : Int} {but : List Int} {S : List Cd} (hS : ordC w (notC but l) = S) (h1 : ∀ j, j < S.length → ¬ (ck S j).load < limit) : bestC w l limit but = if S.length = 0 then (0, false) else ((ck S 0).rep, true) := by
  have h : S.find? (fun c => decide (c.load < limit)) = none := by
    rw [List.find?_eq_none]
    intro c hc
    obtain ⟨j, hj⟩ := List.mem_iff_getElem?.1 hc
    have hjl : j < S.length := (List.getElem?_eq_some_iff.1 hj).1
    have := h1 j hjl
    rw [ck_of hj] at this
    simpa using this
  unfold bestC
  unfold notC at hS
  rw [hS, h]
  cases S with
  | nil => rfl
  | cons c S => simp [ck]
set_option maxHeartbeats 8000000 in
theorem rbest_any (a : Option Addr) (len cap : Nat) (l : List Cd) (q : Wt) (limit : Int) (ab : Option Addr) (lb cb : Nat) (but : List Int) (w : World) (h : CsAt w a len cap l) (hl : len ≤ 60) (hb : Reads .u64 w ab lb cb but) (hlb : lb ≤ 1000) :
    Calls Try.prog 16 #[.slice a len cap, .agg (WtV q), .int .i64 limit, .slice ab lb cb] w fun e w' => e = .returned (.tuple #[.int .u64 (bestC q l limit but).1, .bool (bestC q l limit but).2]) ∧ Hid (Below w.heap.size w w') := by
  obtain ⟨kn, ld, bd, pl⟩ := q
  have hS := fun (a : Option Addr) (len cap : Nat) (l : List Cd) (W : World) (h : CsAt W a len cap l) (hl : len ≤ 60) => rsorted_any a len cap l ⟨kn, ld, bd, pl⟩ W h hl
  unfold WtV at *
  simp only at hS ⊢
  obtain ⟨w1, hw1⟩ : ∃ w1, w1 = w.alloc (.cells #[.int .i64 kn, .int .i64 ld, .int .i64 bd, .int .i64 pl] 24) := ⟨_, rfl⟩
  have hb1 : Below w.heap.size w w1 := by rw [hw1]; exact (Below.refl _ _).alloc (Nat.le_refl _) _
  have hbx : w1.heap[w.heap.size]? = some (.cells #[.int .i64 kn, .int .i64 ld, .int .i64 bd, .int .i64 pl] 24 (0, 0)) := by rw [hw1]; exact heap_alloc_new w _
  have h1 := h.below hb1
  have h2 := hb.below hb1
  obtain ⟨gw, hgw⟩ : ∃ gw, w.heap.size = gw := ⟨_, rfl⟩
  rw [hgw] at hbx
  have hn : l.length = len := h.size
  have HW : Hid (∀ W' : World, Below w1.heap.size w1 W' → CsAt W' a len cap l ∧ Reads .u64 W' ab lb cb but ∧ W'.cell? ⟨gw, 0, none⟩ = some (.int .i64 kn) ∧ W'.cell? ⟨gw, 1, none⟩ = some (.int .i64 ld) ∧ W'.cell? ⟨gw, 2, none⟩ = some (.int .i64 bd) ∧ W'.cell? ⟨gw, 3, none⟩ = some (.int .i64 pl)) := fun W' hb => by
    have e := block_bel hbx hb
    refine ⟨h1.below hb, h2.below hb, ?_, ?_, ?_, ?_⟩ <;> (rw [cell_of_row _ _ _ _ _ _ e]; rfl)
  have HBe : Hid (∀ W', Below w1.heap.size w1 W' → Below w.heap.size w W') := fun W' hb => hb1.trans (hb.mono hb1.size)
  have HSo := hid hS
  have HL := hid hn
  have HZ : Hid (but.length = lb) := hb.size
  obtain ⟨q, hq⟩ : ∃ q : Wt, q = ⟨kn, ld, bd, pl⟩ := ⟨_, rfl⟩
  rw [← hq] at HSo ⊢
  obtain ⟨rz, Hrz⟩ : ∃ rz, Hid (bestC q l limit but = rz) := ⟨_, rfl⟩
  rw [Hrz.out]
  obtain ⟨j0, ji, jz0, jz1, jz2⟩ := Go.info_parts Try.infoCd
  clear h hb h1 h2 hb1 hbx hq hS hn
  go_enter Try.func16, Try.ntmps16
  go_wp2_with fail
  rw [← hw1]
  clear hw1 hgw
  go_loopw [10, 11] (fun o i W' => ∃ (k : Nat) (v : Value), k ≤ len ∧ i = .int .i64 k ∧ o = v ∧ Hid (OwC w1.heap.size 36 W' v (notC but (l.take k)) ∧ Below w1.heap.size w1 W')) (fun _ i _ => len - (intOf i).toNat)
  case atStart => exact ⟨0, _, Nat.zero_le _, rfl, rfl, OwC.nil _ _ _, Below.refl _ _⟩
  case round =>
  obtain ⟨k, v, hk, rfl, hv, HR⟩ := hrel
  have hv' := hv.symm
  subst hv'
  rename World => wr
  by_cases hkn : k < len
  · have g1 : (k : Int) < (len : Int) := by omega
    obtain ⟨b0, off, ha, hc⟩ := (HW.out wr HR.out.2).1.cell k hkn
    subst ha
    go_wp2_with fail
    go_loopw [12, 13] (fun t i W' => ∃ (j : Nat), j ≤ lb ∧ i = .int .i64 j ∧ t = .bool (decide ((ck l k).rep ∈ but.take j)) ∧ ∃ n, W' = wr.drewN n) (fun _ i _ => lb - (intOf i).toNat)
    case atStart => exact ⟨0, Nat.zero_le _, rfl, rfl, 0, rfl⟩
    case round =>
    obtain ⟨j, hj, rfl, rfl, nd, rfl⟩ := hrel
    have hww : Below w1.heap.size w1 (wr.drewN nd) := ⟨HR.out.2.os, HR.out.2.tape, HR.out.2.output, HR.out.2.size, HR.out.2.block⟩
    have HD : Hid (∀ n, ∃ m, (wr.drewN nd).drewN n = wr.drewN m) := fun n => ⟨nd + n, World.drewN_drewN _ _ _⟩
    have hW := HW.out _ hww
    have hcs := hW.1.cell k hkn
    obtain ⟨b1, off1, hab, hc1⟩ := hcs
    obtain ⟨rfl, rfl⟩ : b0 = b1 ∧ off = off1 := by cases hab; exact ⟨rfl, rfl⟩
    have e0 := hc1.c0
    obtain ⟨w2, hw2⟩ : ∃ w2, w2 = wr.drewN nd := ⟨_, rfl⟩
    rw [← hw2] at hww HD hW e0 hc1 ⊢
    by_cases hjm : j < lb
    · have g5 : (j : Int) < (lb : Int) := by omega
      obtain ⟨b2, o2, rfl, hc2⟩ := hW.2.1.cell j hjm
      obtain ⟨z, Hy⟩ : ∃ z, Hid (but[j]? = some z) := ⟨but[j]'(by rw [HZ.out]; exact hjm), List.getElem?_eq_getElem _⟩
      rw [Hy.out] at hc2
      have hc3 : w2.cell? ⟨b2, o2 + j, none⟩ = some (.int .u64 z) := hc2
      have hsn : but.take (j + 1) = but.take j ++ [z] := by rw [List.take_add_one, Hy.out]; rfl
      by_cases hmem : (ck l k).rep ∈ but.take j
      · have HSn : Hid (decide ((ck l k).rep ∈ but.take (j + 1)) = true) := by unfold Hid; rw [hsn]; exact decide_eq_true (List.mem_append.2 (.inl hmem))
        have HSo2 : Hid (decide ((ck l k).rep ∈ but.take j) = true) := decide_eq_true hmem
        rw [HSo2.out]
        clear hc hc1 hW hww hsn hmem hc2 hw2
        generalize (ck l k).rep = x at *
        go_wp2_with fail
        go_quiet (fail)
        go_wp2_with fail
        go_round
        case rel => exact ⟨j + 1, by omega, by go_num, by rw [HSn.out], HD.out _⟩
        case measure => simp [intOf]; omega
      · have HSo2 : Hid (decide ((ck l k).rep ∈ but.take j) = false) := decide_eq_false hmem
        rw [HSo2.out]
        by_cases hz : z = (ck l k).rep
        · have HSn : Hid (decide ((ck l k).rep ∈ but.take (j + 1)) = true) := by unfold Hid; rw [hsn]; exact decide_eq_true (List.mem_append.2 (.inr (by simp [hz])))
          have hz2 : (z == (ck l k).rep) = true := by simp [hz]
          clear hc hc1 hW hww hsn hmem hc2 hz hw2
          generalize (ck l k).rep = x at *
          go_wp2_with fail
          go_quiet (fail)
          go_wp2_with fail
          go_round
          case rel => exact ⟨j + 1, by omega, by go_num, by rw [HSn.out], HD.out _⟩
          case measure => simp [intOf]; omega
        · have HSn : Hid (decide ((ck l k).rep ∈ but.take (j + 1)) = false) := by
            unfold Hid; rw [hsn]
            refine decide_eq_false fun h => ?_
            rcases List.mem_append.1 h with h | h
            · exact hmem h
            · exact hz (List.mem_singleton.1 h).symm
          have hz2 : (z == (ck l k).rep) = false := by simp [hz]
          clear hc hc1 hW hww hsn hmem hc2 hz hw2
          generalize (ck l k).rep = x at *
          go_wp2_with fail
          go_quiet (fail)
          go_wp2_with fail
          go_round
          case rel => exact ⟨j + 1, by omega, by go_num, by rw [HSn.out], HD.out _⟩
          case measure => simp [intOf]; omega
    · have g5 : ¬ (j : Int) < (lb : Int) := by omega
      obtain rfl : j = lb := by omega
      rw [List.take_of_length_le (by rw [HZ.out]; exact Nat.le_refl _)]
      have hnt := notC_take (but := but) (l := l) (k := k) (by rw [HL.out]; exact hkn)
      have hRw : OwC w1.heap.size 36 w2 v (notC but (l.take k)) := by rw [hw2]; exact own_below HR.out.1 ⟨rfl, rfl, rfl, Nat.le_refl _, fun _ _ => rfl⟩
      by_cases hmem : (ck l k).rep ∈ but
      · have HSo2 : Hid (decide ((ck l k).rep ∈ but) = true) := decide_eq_true hmem
        rw [HSo2.out]
        rw [if_pos hmem] at hnt
        have HF : Hid (OwC w1.heap.size 36 w2 v (notC but (l.take (k + 1))) ∧ Below w1.heap.size w1 w2) := ⟨by rw [hnt]; exact hRw, hww⟩
        clear hc hc1 hW hww hmem hw2 hnt hRw e0
        go_wp2_with fail
        go_round
        case rel => exact ⟨k + 1, v, by omega, by go_num, rfl, HF.out⟩
        case measure => simp [intOf]; omega
      · have HSo2 : Hid (decide ((ck l k).rep ∈ but) = false) := decide_eq_false hmem
        rw [HSo2.out]
        rw [if_neg hmem] at hnt
        obtain ⟨m, Hm⟩ : ∃ m, Hid ((notC but (l.take k)).length = m) := ⟨_, rfl⟩
        have hm60 : m ≤ 60 := by
          have h1 := notC_len but (l.take k)
          have h2 := List.length_take_le k l
          rw [Hm.out] at h1
          omega
        obtain ⟨ao, co, hv2⟩ := own_sl19 hRw
        rw [Hm.out] at hv2
        subst hv2
        have HRw : Hid (∀ o : Obj, (w2.alloc o).ownsRow w1.heap.size 36 6 (.slice ao m co) m (flatC (notC but (l.take k))) ∧ Below w1.heap.size w1 (w2.alloc o)) := fun o => by
          have h1 := own_below hRw ((Below.refl w2.heap.size w2).alloc (Nat.le_refl _) o)
          refine ⟨?_, hww.alloc hww.size o⟩
          rwa [Hm.out] at h1
        have HF : Hid (∀ (o : Obj) (v5 : Value) (W5 : World), W5.ownsRow w1.heap.size 36 6 v5 (m + 1) (flatC (notC but (l.take k)) ++ flatC [ck l k]) → (w2.alloc o).grownBy W5 (Value.slice ao m co).ownBlock → OwC w1.heap.size 36 W5 v5 (notC but (l.take (k + 1))) ∧ Below w1.heap.size w1 W5) := fun o v5 W5 h1 h2 => by
          refine ⟨?_, (HRw.out o).2.grown h2 (HRw.out o).2.size fun g hg => ((HRw.out o).1.lt g hg).1⟩
          unfold OwC
          rw [hnt, List.length_append, flatC_app, Hm.out]
          exact h1
        obtain ⟨e0, e1, e2, e3, e4, e5⟩ := hc1
        clear hc hW hww hmem hw2 hnt hRw
        generalize ck l k = c at *
        obtain ⟨x0, x1, x2, x3, x4, x5⟩ := c
        simp only at e0 e1 e2 e3 e4 e5 HF
        go_wp2_with (at_builtin; refine wpList_append_own _ rfl (.tmp 43) (.tmp 48) 22 rfl w1.heap.size 36 j0 (.agg #[.int .u64 0, .int .i64 0, .int .i64 0, .bool false, .int .i64 0, .bool false]) 6 48 Try.underlying22 ji jz0 jz1 jz2 rfl (by decide) (.slice ao m co) m _ rfl (HRw.out _).1 ⟨w2.heap.size, 0, none⟩ 1 1 [.int .u64 x0, .int .i64 x1, .int .i64 x2, .bool x3, .int .i64 x4, .bool x5] rfl rfl (World.news_of_block (heap_alloc_new w2 _)) (by simp [Value.oneCell']) (by unfold maxLen; omega) (by omega) (HRw.out _).2.size ?_; intro v5 w5 how5 hgr5 _)
        have HF2 := hid (HF.out _ _ _ how5 hgr5)
        clear how5 hgr5 HF HRw e0 e1 e2 e3 e4 e5
        go_wp2_with fail
        go_round
        case rel => exact ⟨k + 1, v5, by omega, by go_num, rfl, HF2.out⟩
        case measure => simp [intOf]; omega
  · have g1 : ¬ (k : Int) < (len : Int) := by omega
    obtain rfl : k = len := by omega
    have htk : l.take k = l := List.take_of_length_le (by rw [HL.out]; exact Nat.le_refl _)
    rw [htk] at HR
    obtain ⟨m, Hm⟩ : ∃ m, Hid ((notC but l).length = m) := ⟨_, rfl⟩
    have hm60 : m ≤ 60 := by
      have h1 := notC_len but l
      rw [Hm.out, HL.out] at h1
      omega
    obtain ⟨ao, co, hv2⟩ := own_sl19 HR.out.1
    rw [Hm.out] at hv2
    subst hv2
    have hcs : CsAt wr ao m co (notC but l) := CsAt.own (e := 36) (base := w1.heap.size) (by have := HR.out.1; unfold OwC at this; rwa [Hm.out] at this)
    have hSc := HSo.out ao m co (notC but l) wr hcs hm60
    obtain ⟨S, HS⟩ : ∃ S, Hid (ordC q (notC but l) = S) := ⟨_, rfl⟩
    rw [HS.out] at hSc
    obtain ⟨qa, qb, qc, qd⟩ := (HW.out wr HR.out.2).2.2
    have hwb := hid HR.out.2
    clear hcs htk HR HSo HW
    go_wp2_with fail
    refine hSc.mono ?_
    rintro e w5 ⟨v, rfl, H5⟩
    clear hSc qa qb qc qd
    obtain ⟨n, Hn⟩ : ∃ n, Hid (S.length = n) := ⟨_, rfl⟩
    obtain ⟨as1, cs1, hv⟩ := own_sl19 H5.out.1
    rw [Hn.out] at hv
    subst hv
    have hsl : CsAt w5 as1 n cs1 S := CsAt.own (e := 36) (base := wr.heap.size) (by have := H5.out.1; unfold OwC at this; rwa [Hn.out] at this)
    have HE : Hid (Below w.heap.size w w5) := HBe.out _ (hwb.out.trans (H5.out.2.mono hwb.out.size))
    have HSl := hid hsl
    have hn60 : n ≤ 60 := by
      have h1 := ordC_len q (notC but l)
      rw [HS.out, Hn.out, Hm.out] at h1
      omega
    clear hsl H5 hwb HBe
    go_wp2_with fail
    go_loopw [15] (fun i W' => ∃ (j : Nat), j ≤ n ∧ i = .int .i64 j ∧ W' = w5 ∧ Hid (∀ t, t < j → ¬ (ck S t).load < limit)) (fun i _ => n - (intOf i).toNat)
    case atStart => exact ⟨0, Nat.zero_le _, rfl, rfl, fun t ht => by omega⟩
    case round =>
    obtain ⟨j, hj, rfl, rfl, HN⟩ := hrel
    by_cases hjn : j < n
    · have g5 : (j : Int) < (n : Int) := by omega
      obtain ⟨b, off, rfl, hc⟩ := HSl.out.cell j hjn
      have e0 := hc.c0
      have e1 := hc.c1
      by_cases hlt : (ck S j).load < limit
      · have HZ2 := hid (bestC_some HS.out (i := j) (by rw [Hn.out]; exact hjn) HN.out hlt)
        rw [Hrz.out] at HZ2
        clear hc HN HSl
        generalize (ck S j).load = x at *
        generalize (ck S j).rep = y at *
        go_wp2_with fail
        go_ret2
        exact ⟨by rw [HZ2.out]; rfl, HE⟩
      · have HN2 : Hid (∀ t, t < j + 1 → ¬ (ck S t).load < limit) := fun t ht => by
          rcases (by omega : t < j ∨ t = j) with h | rfl
          · exact HN.out t h
          · exact hlt
        clear hc HN HSl
        generalize (ck S j).load = x at *
        generalize (ck S j).rep = y at *
        go_wp2_with fail
        go_round
        case rel => exact ⟨j + 1, by omega, by go_num, by first | rfl | trivial, HN2.out⟩
        case measure => simp [intOf]; omega
    · have g5 : ¬ (j : Int) < (n : Int) := by omega
      obtain rfl : j = n := by omega
      have HZ2 := hid (bestC_none HS.out (fun t ht => HN.out t (by rw [Hn.out] at ht; exact ht)))
      rw [Hrz.out, Hn.out] at HZ2
      by_cases h0 : j = 0
      · have HZ3 := HZ2
        rw [if_pos h0] at HZ3
        clear HZ2 HN HSl
        subst h0
        go_wp2_with fail
        go_ret2
        exact ⟨by rw [HZ3.out]; rfl, HE⟩
      · have HZ3 := HZ2
        rw [if_neg h0] at HZ3
        have g6 : ((j : Int) == 0) = false := by simp; omega
        obtain ⟨b, off, rfl, hc⟩ := HSl.out.cell 0 (by omega)
        have e0 := hc.c0
        rw [Nat.zero_mul, Nat.add_zero] at e0
        have g7 : 0 < j := by omega
        have g8 : (0 : Int) < (j : Int) := by omega
        clear hc HN HSl HZ2
        generalize (ck S 0).rep = y at *
        go_wp2_with fail
        go_ret2
        exact ⟨by rw [HZ3.out]; rfl, HE⟩
end Go.Proofs.Ytmhpgkkaolcncaa
