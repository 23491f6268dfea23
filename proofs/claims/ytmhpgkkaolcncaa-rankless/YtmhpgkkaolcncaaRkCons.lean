/-
  The program's Order, Second and Best.
-/
import Derived.Test.YtmhpgkkaolcncaaRkGat
namespace Go.Proofs.Ytmhpgkkaolcncaa
open Go.RowKit
set_option linter.unusedVariables false
set_option maxRecDepth 1000000

theorem bestC_isU {q : Wt} {l : List Cd} {limit : Int} {but : List Int} (h : ∀ c ∈ l, CdIn c) : isU (bestC q l limit but).1 := by
  have hm : ∀ c ∈ ordC q (l.filter fun c => decide (c.rep ∉ but)), isU c.rep := fun c hc => by
    have := (ordC_mem q (l.filter fun c => decide (c.rep ∉ but)) c.rep).1 (List.mem_map.2 ⟨c, hc, rfl⟩)
    obtain ⟨d, hd, _, e⟩ := this
    rw [← e]
    exact (h d (List.mem_filter.1 hd).1).rep
  unfold bestC
  split
  · rename_i c hf
    exact hm c (List.mem_of_find?_eq_some hf)
  · split
    · exact ⟨by omega, by omega⟩
    · rename_i c r he
      exact hm c (by rw [he]; simp)
theorem bestC_at {q : Wt} {l : List Cd} {limit : Int} {but : List Int} {O : List Cd} {k : Nat} {c : Cd} (hO : ordC q (l.filter fun c => decide (c.rep ∉ but)) = O) (hk : O[k]? = some c) (hl : c.load < limit) (hn : ∀ x ∈ O.take k, ¬ x.load < limit) : bestC q l limit but = (c.rep, true) := by
  have hf : O.find? (fun c => decide (c.load < limit)) = some c := by
    have e : O = O.take k ++ c :: O.drop (k + 1) := by
      obtain ⟨h1, h2⟩ := List.getElem?_eq_some_iff.1 hk
      rw [← h2, ← List.drop_eq_getElem_cons h1, List.take_append_drop]
    rw [e, List.find?_append, List.find?_eq_none.2 (by simpa using hn)]
    simp [hl]
  unfold bestC
  rw [hO, hf]
theorem bestC_none' {q : Wt} {l : List Cd} {limit : Int} {but : List Int} (hO : ordC q (l.filter fun c => decide (c.rep ∉ but)) = []) : bestC q l limit but = (0, false) := by
  unfold bestC
  rw [hO]
  rfl
theorem bestC_head {q : Wt} {l : List Cd} {limit : Int} {but : List Int} {O : List Cd} {c : Cd} (hO : ordC q (l.filter fun c => decide (c.rep ∉ but)) = O) (hk : O[0]? = some c) (hn : ∀ x ∈ O, ¬ x.load < limit) : bestC q l limit but = (c.rep, true) := by
  have hf : O.find? (fun c => decide (c.load < limit)) = none := List.find?_eq_none.2 (by simpa using hn)
  unfold bestC
  rw [hO, hf]
  cases O with
  | nil => simp at hk
  | cons d r => simp at hk; subst hk; rfl
set_option maxHeartbeats 8000000 in
theorem order_any (a : Option Addr) (len cap : Nat) (l : List Cd) (q : Wt) (w : World) (h : CsAt w a len cap l) (hl : len ≤ 60) (hc : ∀ c ∈ l, CdIn c) (hq : WtIn q) :
    Calls Try.prog 9 #[.slice a len cap, .agg (WtV q)] w fun e w' => ∃ a' cap', e = .returned (.slice a' (ordC q l).length cap') ∧ Hid (Reads .u64 w' a' (ordC q l).length cap' ((ordC q l).map Cd.rep) ∧ Below w.heap.size w w') := by
  have HOr := hid fun (W' : World) (h' : CsAt W' a len cap l) => ordered_any h' hl hc hq
  have hOl : (ordC q l).length ≤ 60 := by have := ordC_len q l; have := h.size; omega
  obtain ⟨n, hn⟩ : ∃ n, (ordC q l).length = n := ⟨_, rfl⟩
  have HN := hid hn
  rw [hn] at hOl ⊢
  clear hn
  have hqv : ∃ kn ld bd pl, WtV q = #[.int .i64 kn, .int .i64 ld, .int .i64 bd, .int .i64 pl] := ⟨_, _, _, _, rfl⟩
  obtain ⟨kn, ld, bd, pl, hqv⟩ := hqv
  rw [hqv] at HOr ⊢
  obtain ⟨w1, hw1⟩ : ∃ w1, w1 = w.alloc (.cells #[.int .i64 kn, .int .i64 ld, .int .i64 bd, .int .i64 pl] 31) := ⟨_, rfl⟩
  have hb1 : Below w.heap.size w w1 := by rw [hw1]; exact (Below.refl _ _).alloc (Nat.le_refl _) _
  have hO := HOr.out w1 (h.below hb1)
  have HB1 := hid hb1
  generalize ordC q l = O at *
  clear h hc hq hqv hb1 HOr
  obtain ⟨j0, ji, jz0, jz1, jz2⟩ := Go.info_parts Try.infoU19
  go_enter Try.func9, Try.ntmps9
  go_wp2_with fail
  rw [← hw1]
  clear hw1
  with_reducible refine hO.mono ?_
  rintro e w2 ⟨v2, rfl, H2⟩
  obtain ⟨aO, cO, hv2⟩ := own_sl19 H2.out.1
  rw [HN.out] at hv2
  subst hv2
  have hM0 := MsAt.own H2.out.1 HN.out
  have hrm := hM0.room
  have hms := hM0.most
  have HMs : Hid (∀ W' : World, Below w2.heap.size w2 W' → MsAt q W' aO n cO O) := fun W' hb => hM0.below hb
  have HB2 : Hid (Below w.heap.size w w2) := HB1.out.trans (H2.out.2.mono HB1.out.size)
  clear hO H2 hM0 HB1
  go_wp2_with fail
  go_loopw [5, 12] (fun o i W' => ∃ (k : Nat) (v : Value), k ≤ n ∧ i = .int .i64 k ∧ o = v ∧ Hid (W'.ownsRow w2.heap.size 34 1 v k (((O.take k).map Cd.rep).map (Value.int .u64)) ∧ Below w2.heap.size w2 W')) (fun _ i _ => n - (intOf i).toNat)
  case atStart => exact ⟨0, _, Nat.zero_le _, rfl, rfl, World.ownsRow_nil _ _ _ _, Below.refl _ _⟩
  case round =>
  obtain ⟨k, v, hk, rfl, hv, HR⟩ := hrel
  have hv' := hv.symm
  subst hv'
  rename World => wr
  by_cases hkn : k < n
  · have g1 : (k : Int) < (n : Int) := by omega
    obtain ⟨b0, rfl, hc⟩ := (HMs.out wr HR.out.2).cell k hkn
    have hkl : k < O.length := by rw [HN.out]; exact hkn
    have HSn : Hid ((((O.take (k + 1)).map Cd.rep).map (Value.int .u64)) = (((O.take k).map Cd.rep).map (Value.int .u64)) ++ [.int .u64 (ck O k).rep]) := by unfold Hid; rw [List.take_add_one, ck_get hkl]; simp
    generalize ck O k = c at *
    have e0 := hc 0 _ rfl
    have e1 := hc 1 _ rfl
    have e2 := hc 2 _ rfl
    have e3 := hc 3 _ rfl
    have e4 := hc 4 _ rfl
    have e5 := hc 5 _ rfl
    have e6 := hc 6 _ rfl
    rw [Nat.add_zero] at e0
    clear hc
    obtain ⟨y0, y1, y2, y3, y4, y5⟩ := c
    simp only at *
    generalize markZ q ⟨y0, y1, y2, y3, y4, y5⟩ = mk at *
    obtain ⟨ao, co, hv2⟩ := own_sl19 HR.out.1
    subst hv2
    obtain ⟨xs, Hxs⟩ : ∃ xs, Hid ((((O.take k).map Cd.rep).map (Value.int .u64)) = xs) := ⟨_, rfl⟩
    have hOw : Hid (((wr.alloc (.cells #[.int .u64 y0, .int .i64 y1, .int .i64 y2, .bool y3, .int .i64 y4, .bool y5, .int .i64 mk] 51)).alloc (.cells #[.int .u64 y0] 34)).ownsRow w2.heap.size 34 1 (.slice ao k co) k xs ∧ Below w2.heap.size w2 ((wr.alloc (.cells #[.int .u64 y0, .int .i64 y1, .int .i64 y2, .bool y3, .int .i64 y4, .bool y5, .int .i64 mk] 51)).alloc (.cells #[.int .u64 y0] 34))) := by
      have h1 := HR.out.1
      rw [Hxs.out] at h1
      have hb : Below wr.heap.size wr ((wr.alloc (.cells #[.int .u64 y0, .int .i64 y1, .int .i64 y2, .bool y3, .int .i64 y4, .bool y5, .int .i64 mk] 51)).alloc (.cells #[.int .u64 y0] 34)) := ((Below.refl _ _).alloc (Nat.le_refl _) _).alloc (by simp) _
      exact ⟨own_below h1 hb, HR.out.2.trans (hb.mono HR.out.2.size)⟩
    have HNw : Hid (∀ j u, [Value.int .u64 y0][j]? = some u → ((wr.alloc (.cells #[.int .u64 y0, .int .i64 y1, .int .i64 y2, .bool y3, .int .i64 y4, .bool y5, .int .i64 mk] 51)).alloc (.cells #[.int .u64 y0] 34)).cell? ((⟨wr.heap.size + 1, 0, none⟩ : Addr).add j) = some u) := by
      have := news_one .u64 y0 (wr.alloc (.cells #[.int .u64 y0, .int .i64 y1, .int .i64 y2, .bool y3, .int .i64 y4, .bool y5, .int .i64 mk] 51)) 34
      rw [World.size_alloc] at this
      exact this
    clear HR
    go_wp2_with (at_builtin; refine wpList_append_own _ rfl (.tmp 16) (.tmp 20) 27 rfl w2.heap.size 34 j0 (.int .u64 0) 1 8 Try.underlying27 ji jz0 jz1 jz2 rfl (by decide) (.slice ao k co) k _ rfl hOw.out.1 ⟨wr.heap.size + 1, 0, none⟩ 1 1 [.int .u64 y0] rfl rfl HNw.out (one_cell .u64 y0) (by unfold maxLen; omega) (by omega) hOw.out.2.size ?_; intro v5 w5 how5 hgr5 _)
    have HF2 : Hid (w5.ownsRow w2.heap.size 34 1 v5 (k + 1) (((O.take (k + 1)).map Cd.rep).map (Value.int .u64)) ∧ Below w2.heap.size w2 w5) := by
      refine ⟨?_, hOw.out.2.grown hgr5 hOw.out.2.size fun g hg => (hOw.out.1.lt g hg).1⟩
      rw [HSn.out, Hxs.out]
      exact how5
    refine ⟨⟨k + 1, v5, by omega, by go_num, rfl, HF2.out⟩, ?_⟩
    simp [intOf]; omega
  · have g1 : ¬ (k : Int) < (n : Int) := by omega
    obtain rfl : k = n := by omega
    have htk : O.take k = O := List.take_of_length_le (by rw [HN.out]; exact Nat.le_refl _)
    rw [htk] at HR
    obtain ⟨a5, c5, rfl, hr5⟩ := Reads.own (k := .u64) HR.out.1
    have HFn : Hid (Reads .u64 wr a5 k c5 (O.map Cd.rep) ∧ Below w.heap.size w wr) := ⟨hr5, HB2.out.trans (HR.out.2.mono HB2.out.size)⟩
    clear HR htk HMs HB2 hr5
    go_wp2_with fail
    go_ret
    exact ⟨_, _, rfl, HFn.out⟩
set_option maxHeartbeats 8000000 in
theorem second_any (a : Option Addr) (len cap : Nat) (l : List Cd) (q : Wt) (limit : Int) (ab : Option Addr) (lb cb : Nat) (but : List Int) (w : World) (h : CsAt w a len cap l) (hl : len ≤ 60) (hc : ∀ c ∈ l, CdIn c) (hq : WtIn q) (hi : isI limit) (hb : Reads .u64 w ab lb cb but) (hlb : lb ≤ 1000) (hbu : ∀ x ∈ but, isU x) :
    Calls Try.prog 17 #[.slice a len cap, .agg (WtV q), .int .i64 limit, .slice ab lb cb] w fun e w' => e = .returned (.tuple #[.int .u64 (bestC q l limit but).1, .bool (bestC q l limit but).2]) ∧ Hid (Below w.heap.size w w') := by
  obtain ⟨l2, hl2⟩ : ∃ l2, (l.filter fun c => decide (c.rep ∉ but)) = l2 := ⟨_, rfl⟩
  have hl2n : l2.length ≤ 60 := by rw [← hl2]; have := List.length_filter_le (fun c => decide (c.rep ∉ but)) l; have := h.size; omega
  have hc2 : ∀ c ∈ l2, CdIn c := fun c hm => hc c (List.mem_filter.1 (by rw [hl2]; exact hm)).1
  have hWo := fun (W' : World) (h' : CsAt W' a len cap l) (hb' : Reads .u64 W' ab lb cb but) => without_any h' hl (fun c hm => (hc c hm).rep) hb' hlb hbu
  rw [hl2] at hWo
  have HOr := hid fun (W' : World) (a' : Option Addr) (n' c' : Nat) (h' : CsAt W' a' n' c' l2) (hn : n' ≤ 60) => ordered_any h' hn hc2 hq
  obtain ⟨O, hO⟩ : ∃ O, ordC q l2 = O := ⟨_, rfl⟩
  rw [hO] at HOr
  have hOl : O.length ≤ 60 := by have := ordC_len q l2; rw [hO] at this; omega
  have HE := hid (show ordC q (l.filter fun c => decide (c.rep ∉ but)) = O by rw [hl2]; exact hO)
  have H1 := hid fun (k : Nat) (c : Cd) (hk : O[k]? = some c) (hlt : c.load < limit) (hn : ∀ x ∈ O.take k, ¬ x.load < limit) => bestC_at (limit := limit) HE.out hk hlt hn
  have H2 := hid fun (c : Cd) (hk : O[0]? = some c) (hn : ∀ x ∈ O, ¬ x.load < limit) => bestC_head (limit := limit) HE.out hk hn
  have H3 := hid fun (hn : O = []) => bestC_none' (q := q) (l := l) (limit := limit) (but := but) (by rw [HE.out]; exact hn)
  generalize bestC q l limit but = R at *
  obtain ⟨rx, ry⟩ := R
  simp only at *
  have hqv : ∃ kn ld bd pl, WtV q = #[.int .i64 kn, .int .i64 ld, .int .i64 bd, .int .i64 pl] := ⟨_, _, _, _, rfl⟩
  obtain ⟨kn, ld, bd, pl, hqv⟩ := hqv
  rw [hqv] at HOr ⊢
  obtain ⟨w1, hw1⟩ : ∃ w1, w1 = w.alloc (.cells #[.int .i64 kn, .int .i64 ld, .int .i64 bd, .int .i64 pl] 31) := ⟨_, rfl⟩
  have hb1 : Below w.heap.size w w1 := by rw [hw1]; exact (Below.refl _ _).alloc (Nat.le_refl _) _
  have hbx : w1.heap[w.heap.size]? = some (.cells #[.int .i64 kn, .int .i64 ld, .int .i64 bd, .int .i64 pl] 31 (0, 0)) := by rw [hw1]; exact heap_alloc_new w _
  have h1 := h.below hb1
  have hb2 := hb.below hb1
  have HWo := hid fun (W' : World) (hB : Below w1.heap.size w1 W') => hWo W' (h1.below hB) (hb2.below hB)
  have HB1 := hid hb1
  generalize hgw : w.heap.size = gw at *
  have HW : Hid (∀ W' : World, Below w1.heap.size w1 W' → W'.cell? ⟨gw, 0, none⟩ = some (.int .i64 kn) ∧ W'.cell? ⟨gw, 1, none⟩ = some (.int .i64 ld) ∧ W'.cell? ⟨gw, 2, none⟩ = some (.int .i64 bd) ∧ W'.cell? ⟨gw, 3, none⟩ = some (.int .i64 pl)) := fun W' hb => by
    have e := block_bel hbx hb
    refine ⟨?_, ?_, ?_, ?_⟩ <;> (rw [cell_of_row _ _ _ _ _ _ e]; rfl)
  have HV : Hid (Below w1.heap.size w1 w1.drew) := (Below.refl _ _).drew
  have HL2 := hid hl2n
  have hi0 := hi.1
  have hi1 := hi.2
  clear h hc hq hb hbu h1 hb2 hb1 hbx hqv hWo hl2 hc2 hO HE hl2n hi
  go_enter Try.func17, Try.ntmps17
  go_wp2_with fail
  rw [← hw1]
  clear hw1
  obtain ⟨z0, z1, z2, z3⟩ := HW.out w1 (Below.refl _ _)
  go_region_held3 (fun W' : World => W'.cell? ⟨gw, 0, none⟩ = some (.int .i64 kn) ∧ W'.cell? ⟨gw, 1, none⟩ = some (.int .i64 ld) ∧ W'.cell? ⟨gw, 2, none⟩ = some (.int .i64 bd) ∧ W'.cell? ⟨gw, 3, none⟩ = some (.int .i64 pl))
    (first | (with_reducible exact HW.out _ (Below.refl _ _)) | (with_reducible exact HW.out _ HV.out))
    (first
      | (go_at_call 26; (with_reducible refine (HWo.out _ HV.out).mono ?_); rintro e x1 ⟨v1, rfl, h2⟩; obtain ⟨a1, c1, hv1⟩ := own_sl19 h2.out.1; obtain ⟨n1, hn1⟩ : ∃ n1, l2.length = n1 := ⟨_, rfl⟩; rw [hn1] at hv1; subst hv1; have HN1 := hid hn1; have HCs := hid (CsAt.own (by have h9 := h2.out.1; unfold OwC at h9; rw [hn1] at h9; exact h9)); replace HV := hid (HV.out.trans (h2.out.2.mono HV.out.size)); clear h2 hn1)
      | (go_at_call 19; (with_reducible refine (HOr.out _ _ _ _ HCs.out (by have := HN1.out; have := HL2.out; omega)).mono ?_); rintro e x2 ⟨v2, rfl, h2⟩; have HO2 := hid h2.out.1; replace HV := hid (HV.out.trans (h2.out.2.mono HV.out.size)); clear h2 HCs)
      | fail)
  all_goals
    obtain ⟨aO, cO, hv2⟩ := own_sl19 HO2.out
    obtain ⟨n, hn⟩ : ∃ n, O.length = n := ⟨_, rfl⟩
    rw [hn] at hv2 hOl
    subst hv2
    have hM0 := MsAt.own HO2.out hn
    have hrm := hM0.room
    have hms := hM0.most
    have HN := hid hn
    have HMs : Hid (∀ W' : World, Below x2.heap.size x2 W' → MsAt q W' aO n cO O) := fun W' hb => hM0.below hb
    have HB2 : Hid (Below gw w x2) := HB1.out.trans (HV.out.mono (hgw ▸ HB1.out.size))
    clear hM0 hn HO2 HV HOr HWo HW HL2 HB1 HN1 z0 z1 z2 z3
    by_cases hn0 : n = 0
    · subst hn0
      have hR := H3.out (List.eq_nil_of_length_eq_zero HN.out)
      cases hR
      clear H1 H2 H3 HMs
      go_wp2_with fail
      go_ret2
      exact ⟨rfl, HB2⟩
    · have g0 : ¬ (n : Int) = 0 := by omega
      have g0b : ((n : Int) == 0) = false := by simpa using g0
      go_wp2_with fail
      go_loopw [23] (fun i W' => ∃ k : Nat, k ≤ n ∧ i = .int .i64 k ∧ Hid ((∀ x ∈ O.take k, limit ≤ x.load) ∧ Below x2.heap.size x2 W')) (fun i _ => n - (intOf i).toNat)
      case atStart => exact ⟨0, Nat.zero_le _, rfl, by simp, Below.refl _ _⟩
      case round =>
      obtain ⟨k, hk, rfl, HR⟩ := hrel
      rename World => wr
      by_cases hkn : k < n
      · have g1 : (k : Int) < (n : Int) := by omega
        obtain ⟨b0, rfl, hc⟩ := (HMs.out wr HR.out.2).cell k hkn
        have hkl : k < O.length := by rw [HN.out]; exact hkn
        have HGt := hid (ck_get hkl)
        have HSn : Hid (O.take (k + 1) = O.take k ++ [ck O k]) := by unfold Hid; rw [List.take_add_one, ck_get hkl]; rfl
        generalize ck O k = c at *
        have e0 := hc 0 _ rfl
        have e1 := hc 1 _ rfl
        have e2 := hc 2 _ rfl
        have e3 := hc 3 _ rfl
        have e4 := hc 4 _ rfl
        have e5 := hc 5 _ rfl
        have e6 := hc 6 _ rfl
        rw [Nat.add_zero] at e0
        clear hc hkl
        obtain ⟨y0, y1, y2, y3, y4, y5⟩ := c
        simp only at e0 e1 e2 e3 e4 e5
        generalize markZ q ⟨y0, y1, y2, y3, y4, y5⟩ = mk at *
        have HBx : Hid (Below gw w (wr.alloc (.cells #[.int .u64 y0, .int .i64 y1, .int .i64 y2, .bool y3, .int .i64 y4, .bool y5, .int .i64 mk] 51)) ∧ Below x2.heap.size x2 (wr.alloc (.cells #[.int .u64 y0, .int .i64 y1, .int .i64 y2, .bool y3, .int .i64 y4, .bool y5, .int .i64 mk] 51))) := by
          have hb := HR.out.2.alloc HR.out.2.size (.cells #[.int .u64 y0, .int .i64 y1, .int .i64 y2, .bool y3, .int .i64 y4, .bool y5, .int .i64 mk] 51)
          exact ⟨HB2.out.trans (hb.mono (hgw ▸ HB2.out.size)), hb⟩
        by_cases hlt : y1 < limit
        · have hR := H1.out k _ HGt.out hlt HR.out.1
          cases hR
          clear H1 H2 H3 HMs HR HB2 HGt HSn
          go_wp2_with fail
          go_ret2
          exact ⟨rfl, HBx.out.1⟩
        · have HN2 : Hid (∀ x ∈ O.take (k + 1), limit ≤ x.load) := fun x hx => by
            rw [HSn.out] at hx
            rcases List.mem_append.1 hx with hx | hx
            · exact HR.out.1 x hx
            · rw [List.mem_singleton.1 hx]
              exact Int.not_lt.1 hlt
          clear H1 H2 H3 HMs HR HB2 HGt HSn
          go_wp2_with fail
          go_round
          case rel => exact ⟨k + 1, by omega, by go_num, HN2.out, HBx.out.2⟩
          case measure => simp [intOf]; omega
      · have g1 : ¬ (k : Int) < (n : Int) := by omega
        obtain rfl : k = n := by omega
        have htk : O.take k = O := List.take_of_length_le (by rw [HN.out]; exact Nat.le_refl _)
        rw [htk] at HR
        obtain ⟨b0, rfl, hc⟩ := (HMs.out wr HR.out.2).cell 0 (by omega)
        have hkl : 0 < O.length := by rw [HN.out]; omega
        have hR := H2.out _ (ck_get hkl) HR.out.1
        have e0 := hc 0 _ rfl
        have p0 : (0 : Int) < (k : Int) := by omega
        rw [Nat.zero_mul, Nat.add_zero] at e0
        generalize ck O 0 = c at *
        obtain ⟨y0, y1, y2, y3, y4, y5⟩ := c
        simp only at e0 hR
        cases hR
        have HFn : Hid (Below gw w wr) := HB2.out.trans (HR.out.2.mono (hgw ▸ HB2.out.size))
        clear hc H1 H2 H3 HMs HR HB2 htk hkl
        go_wp2_with fail
        go_ret2
        exact ⟨rfl, HFn⟩
theorem best_any (a : Option Addr) (len cap : Nat) (l : List Cd) (q : Wt) (limit : Int) (w : World) (h : CsAt w a len cap l) (hl : len ≤ 60) (hc : ∀ c ∈ l, CdIn c) (hq : WtIn q) (hi : isI limit) :
    Calls Try.prog 15 #[.slice a len cap, .agg (WtV q), .int .i64 limit] w fun e w' => e = .returned (.tuple #[.int .u64 (bestC q l limit []).1, .bool (bestC q l limit []).2]) ∧ Hid (Below w.heap.size w w') := by
  have HSc := hid fun (W' : World) (h' : CsAt W' a len cap l) => second_any a len cap l q limit none 0 0 [] W' h' hl hc hq hi (Reads.nil _ _) (by omega) (by simp)
  generalize bestC q l limit [] = R at *
  obtain ⟨rx, ry⟩ := R
  simp only at *
  have hqv : ∃ kn ld bd pl, WtV q = #[.int .i64 kn, .int .i64 ld, .int .i64 bd, .int .i64 pl] := ⟨_, _, _, _, rfl⟩
  obtain ⟨kn, ld, bd, pl, hqv⟩ := hqv
  rw [hqv] at HSc ⊢
  obtain ⟨w1, hw1⟩ : ∃ w1, w1 = w.alloc (.cells #[.int .i64 kn, .int .i64 ld, .int .i64 bd, .int .i64 pl] 31) := ⟨_, rfl⟩
  have hb1 : Below w.heap.size w w1 := by rw [hw1]; exact (Below.refl _ _).alloc (Nat.le_refl _) _
  have hS := HSc.out w1 (h.below hb1)
  have HB1 := hid hb1
  have hi0 := hi.1
  have hi1 := hi.2
  clear h hc hq hqv hb1 HSc hi
  go_enter Try.func15, Try.ntmps15
  go_wp2_with fail
  rw [← hw1]
  clear hw1
  with_reducible refine hS.mono ?_
  rintro e w2 ⟨rfl, H2⟩
  have HF := hid (HB1.out.trans (H2.out.mono HB1.out.size))
  clear H2 HB1 hS
  go_wp2_with fail
  go_ret2
  exact ⟨rfl, HF⟩
end Go.Proofs.Ytmhpgkkaolcncaa
