/-
  Those whose number is none of some.
-/
import Derived.Test.YtmhpgkkaolcncaaRkSet
namespace Go.Proofs.Ytmhpgkkaolcncaa
open Go.RowKit Go.Maps
set_option linter.unusedVariables false
set_option maxRecDepth 1000000

set_option maxHeartbeats 8000000 in
theorem without_any {a : Option Addr} {len cap : Nat} {l : List Cd} {ab : Option Addr} {lb cb : Nat} {but : List Int} {w : World} (h : CsAt w a len cap l) (hl : len ≤ 60) (hr : ∀ c ∈ l, isU c.rep) (hb : Reads .u64 w ab lb cb but) (hlb : lb ≤ 1000) (hbu : ∀ x ∈ but, isU x) :
    Calls Try.prog 26 #[.slice a len cap, .slice ab lb cb] w fun e w' => ∃ v, e = .returned v ∧ Hid (OwC w.heap.size 37 w' v (l.filter fun c => decide (c.rep ∉ but)) ∧ Below w.heap.size w w') := by
  have HW : Hid (∀ W' : World, Below w.heap.size w W' → CsAt W' a len cap l) := fun W' hb => h.below hb
  have HB : Hid (∀ W' : World, Below w.heap.size w W' → Reads .u64 W' ab lb cb but) := fun W' hb' => hb.below hb'
  have HL := hid h.size
  have HLb := hid hb.size
  have HU := hid hr
  have HUb := hid hbu
  have hrm := h.room
  have hms := h.most
  have hrm2 := hb.room
  have hms2 := hb.most
  obtain ⟨w1, hw1⟩ : ∃ w1, w1 = w.alloc (.map #[] 0) := ⟨_, rfl⟩
  have hb1 : Below w.heap.size w w1 := by rw [hw1]; exact (Below.refl _ _).alloc (Nat.le_refl _) _
  have hs1 : w1.heap.size = w.heap.size + 1 := by rw [hw1, World.size_alloc]
  have HM0 : Hid (StAt w1 w.heap.size 0 []) := by rw [hw1]; exact StAt.new w
  obtain ⟨F, HF⟩ : ∃ F : Cd → Bool, Hid (F = fun c => decide (c.rep ∉ but)) := ⟨_, rfl⟩
  rw [← HF.out]
  clear h hr hb hbu
  generalize hM : w.heap.size = M at *
  have hmk : (Instr.makeMap 63 none).run Try.prog w = .ok (.map (some M)) w1 := by rw [hw1, ← hM]; rfl
  clear hw1
  go_enter Try.func26, Try.ntmps26
  go_wp2_with fail
  clear hmk
  go_loopw [7, 16] (fun _ i W' => ∃ k : Nat, k ≤ lb ∧ i = .int .i64 k ∧ Hid (StAt W' M k (but.take k) ∧ Below M w W' ∧ w1.heap.size ≤ W'.heap.size)) (fun _ i _ => lb - (intOf i).toNat)
  case atStart => exact ⟨0, Nat.zero_le _, rfl, HM0.out, hb1, Nat.le_refl _⟩
  case round =>
  obtain ⟨k, hk, rfl, HR⟩ := hrel
  rename World => wr
  by_cases hkn : k < lb
  · have g1 : (k : Int) < (lb : Int) := by omega
    have hkl : k < but.length := by rw [HLb.out]; exact hkn
    obtain ⟨bb, ob, rfl, hcb⟩ := (HB.out wr (hM ▸ HR.out.2.1)).cell k hkn
    obtain ⟨x, Hx⟩ : ∃ x, Hid (but[k]? = some x) := ⟨but[k], List.getElem?_eq_getElem hkl⟩
    rw [Hx.out] at hcb
    have hcb' : wr.cell? ⟨bb, ob + k, none⟩ = some (.int .u64 x) := hcb
    have hxu : isU x := HUb.out x (List.mem_of_getElem? Hx.out)
    obtain ⟨w2, es, hS2, f2⟩ := HR.out.1.store (by omega) hxu
    have HN : Hid (StAt w2 M (k + 1) (but.take (k + 1)) ∧ Below M w w2 ∧ w1.heap.size ≤ w2.heap.size) := by
      refine ⟨?_, HR.out.2.1.trans (f2.to (fun y hy => by have e : y = M := hy; omega) (by have := HR.out.1.lt; omega)), Nat.le_trans HR.out.2.2 f2.size⟩
      rw [List.take_add_one, Hx.out]
      exact hS2
    clear hcb HR hS2 f2 hxu Hx hkl HB HW HM0
    go_wp2_with fail
    go_round
    case rel => exact ⟨k + 1, by omega, by go_num, HN.out⟩
    case measure => simp [intOf]; omega
  · have g1 : ¬ (k : Int) < (lb : Int) := by omega
    obtain rfl : k = lb := by omega
    have htk : but.take k = but := List.take_of_length_le (by rw [HLb.out]; exact Nat.le_refl _)
    rw [htk] at HR
    have HR0 := HR
    clear htk HM0 HB HR
    rename_i u1 u2
    go_wp2_with fail
    go_loopw [8, 26] (fun o i W' => ∃ (j : Nat) (v : Value), j ≤ len ∧ i = .int .i64 j ∧ o = v ∧ Hid (OwC w1.heap.size 37 W' v ((l.take j).filter F) ∧ StAt W' M k but ∧ Below M w W' ∧ w1.heap.size ≤ W'.heap.size)) (fun _ i _ => len - (intOf i).toNat)
    case atStart => exact ⟨0, _, Nat.zero_le _, rfl, rfl, OwC.nil _ _ _, HR0.out⟩
    case round =>
    clear HR0
    obtain ⟨j, v, hj, rfl, hv, HR⟩ := hrel
    have hv' := hv.symm
    subst hv'
    rename World => wr
    by_cases hkn : j < len
    · have g3 : (j : Int) < (len : Int) := by omega
      obtain ⟨b0, off, rfl, hc⟩ := (HW.out wr (hM ▸ HR.out.2.2.1)).cell j hkn
      have hkl : j < l.length := by rw [HL.out]; exact hkn
      have hsn : (l.take (j + 1)).filter F = (l.take j).filter F ++ [ck l j].filter F := by rw [List.take_add_one, ck_get hkl, List.filter_append]; rfl
      have hxu : isU (ck l j).rep := HU.out _ (ck_mem hkl)
      have hOl : ((l.take j).filter F).length ≤ j := by
        have h1 := List.length_filter_le F (l.take j)
        have h2 := List.length_take_le j l
        omega
      have HFO := hid hsn
      have HFc : Hid (F (ck l j) = decide ((ck l j).rep ∉ but)) := by unfold Hid; rw [HF.out]
      clear hsn hkl HF
      generalize (l.take j).filter F = O at *
      generalize ck l j = c at *
      obtain ⟨e0, e1, e2, e3, e4, e5⟩ := hc
      obtain ⟨wB, hwB⟩ : ∃ wB, wB = wr.alloc (.cells #[.int .u64 c.rep, .int .i64 c.load, .int .i64 c.known, .bool c.bnd, .int .i64 c.place, .bool c.opn] 37) := ⟨_, rfl⟩
      obtain ⟨wC, hwC⟩ : ∃ wC, wC = wB.alloc (.cells #[] 64) := ⟨_, rfl⟩
      have hbB : Below wr.heap.size wr wB := by rw [hwB]; exact (Below.refl _ _).alloc (Nat.le_refl _) _
      have hbC : Below wB.heap.size wB wC := by rw [hwC]; exact (Below.refl _ _).alloc (Nat.le_refl _) _
      have hbC' : Below wr.heap.size wr wC := hbB.trans (hbC.mono hbB.size)
      have hnB : wC.heap[wr.heap.size]? = some (.cells #[.int .u64 c.rep, .int .i64 c.load, .int .i64 c.known, .bool c.bnd, .int .i64 c.place, .bool c.opn] 37 (0, 0)) := block_bel (by rw [hwB]; exact heap_alloc_new wr _) hbC
      have lk := (HR.out.2.1.below hbB).look hxu
      have hO : OwC w1.heap.size 37 wC v O := own_below HR.out.1 hbC'
      have hS : StAt wC M k but := HR.out.2.1.below hbC'
      have hBl : Below M w wC := HR.out.2.2.1.trans (hbC'.mono (hM ▸ HR.out.2.2.1.size))
      have hz : w1.heap.size ≤ wC.heap.size := Nat.le_trans HR.out.2.2.2 hbC'.size
      generalize hs : wr.heap.size = s at *
      obtain ⟨y0, y1, y2, y3, y4, y5⟩ := c
      simp only at *
      by_cases hin : y0 ∈ but
      · rw [decide_eq_true hin] at lk
        have HE : Hid ((l.take (j + 1)).filter F = O) := by
          unfold Hid
          have : F ⟨y0, y1, y2, y3, y4, y5⟩ = false := by rw [HFc.out]; simp [hin]
          rw [HFO.out, List.filter_cons_of_neg (by simp [this])]
          simp
        have HFn : Hid (OwC w1.heap.size 37 wC v O ∧ StAt wC M k but ∧ Below M w wC ∧ w1.heap.size ≤ wC.heap.size) := ⟨hO, hS, hBl, hz⟩
        rw [hwB] at lk
        rw [hwC, hwB] at HFn
        clear hwC hwB hbB hbC hbC' hnB hO hS hBl hz hin HFc HFO HW
        go_wp2_with fail
        go_round
        case rel => exact ⟨j + 1, v, by omega, by go_num, rfl, by rw [HE.out]; exact HFn.out⟩
        case measure => simp [intOf]; omega
      · rw [decide_eq_false hin] at lk
        have HE : Hid ((l.take (j + 1)).filter F = O ++ [⟨y0, y1, y2, y3, y4, y5⟩]) := by
          unfold Hid
          have : F ⟨y0, y1, y2, y3, y4, y5⟩ = true := by rw [HFc.out]; simp [hin]
          rw [HFO.out, List.filter_cons_of_pos this]
          rfl
        obtain ⟨d0, d1, d2, d3, d4, d5⟩ : wC.cell? ⟨s, 0, none⟩ = some (.int .u64 y0) ∧ wC.cell? ⟨s, 1, none⟩ = some (.int .i64 y1) ∧ wC.cell? ⟨s, 2, none⟩ = some (.int .i64 y2) ∧ wC.cell? ⟨s, 3, none⟩ = some (.bool y3) ∧ wC.cell? ⟨s, 4, none⟩ = some (.int .i64 y4) ∧ wC.cell? ⟨s, 5, none⟩ = some (.bool y5) := by
          refine ⟨?_, ?_, ?_, ?_, ?_, ?_⟩ <;> (rw [cell_of_row _ _ _ _ _ _ hnB]; rfl)
        obtain ⟨j0, ji, jz0, jz1, jz2⟩ := Go.info_parts Try.infoCr
        have hOw : Hid ((wC.alloc (.cells #[.int .u64 y0, .int .i64 y1, .int .i64 y2, .bool y3, .int .i64 y4, .bool y5] 37)).ownsRow w1.heap.size 37 6 v O.length (flatC O)) := own_below hO ((Below.refl _ _).alloc (Nat.le_refl _) _)
        have HNw := hid (World.news_of_block (heap_alloc_new wC (.cells #[.int .u64 y0, .int .i64 y1, .int .i64 y2, .bool y3, .int .i64 y4, .bool y5] 37)))
        have hLC : M < wC.heap.size := hS.lt
        have hs1C : w1.heap.size ≤ (wC.alloc (.cells #[.int .u64 y0, .int .i64 y1, .int .i64 y2, .bool y3, .int .i64 y4, .bool y5] 37)).heap.size := by rw [World.size_alloc]; omega
        have HFin : Hid (∀ (v5 : Value) (W5 : World), W5.ownsRow w1.heap.size 37 6 v5 (O.length + 1) (flatC O ++ [.int .u64 y0, .int .i64 y1, .int .i64 y2, .bool y3, .int .i64 y4, .bool y5]) → (wC.alloc (.cells #[.int .u64 y0, .int .i64 y1, .int .i64 y2, .bool y3, .int .i64 y4, .bool y5] 37)).grownBy W5 v.ownBlock → OwC w1.heap.size 37 W5 v5 (O ++ [⟨y0, y1, y2, y3, y4, y5⟩]) ∧ StAt W5 M k but ∧ Below M w W5 ∧ w1.heap.size ≤ W5.heap.size) := fun v5 W5 q1 q2 => by
          have hbx : Below wC.heap.size wC (wC.alloc (.cells #[.int .u64 y0, .int .i64 y1, .int .i64 y2, .bool y3, .int .i64 y4, .bool y5] 37)) := (Below.refl _ _).alloc (Nat.le_refl _) _
          have hMM : M ≠ v.ownBlock.getD (M + 1) := by
            cases hv9 : v.ownBlock with
            | none => simp
            | some b =>
              have := (hO.lt b hv9).1
              simp
              omega
          refine ⟨?_, ?_, ?_, Nat.le_trans hz (Nat.le_trans hbx.size q2.size)⟩
          · unfold OwC
            rw [List.length_append, flatC_app]
            exact q1
          · have h7 := hS.below hbx
            refine h7.same (q2.block M h7.lt fun e => ?_)
            rw [← e] at hMM
            simp at hMM
          · exact (hBl.trans (hbx.mono (by omega))).grown q2 (by have := hbx.size; omega) fun b hb => by have := (hO.lt b hb).1; omega
        rw [hwB] at lk
        rw [hwC, hwB] at d0 d1 d2 d3 d4 d5 hOw HNw HFin hs1C
        have HO1 : Hid (∃ ao co, v = .slice ao O.length co) := own_sl19 hO
        obtain ⟨ao, co, hv2⟩ := HO1.out
        subst hv2
        have HsC := hid hs
        have hsz6 : ((wr.alloc (.cells #[.int .u64 y0, .int .i64 y1, .int .i64 y2, .bool y3, .int .i64 y4, .bool y5] 37)).alloc (.cells #[] 64)).heap.size = s + 1 + 1 := by rw [World.size_alloc, World.size_alloc, hs]
        rw [hsz6] at HNw
        have HS6 := hid hs1C
        clear hwC hwB hbB hbC hbC' hnB hO hS hBl hz hin HR HO1 HW hLC hs1C
        have hz6 : O.length ≤ 59 := by omega
        have HOL := hid hOl
        clear hOl
        go_wp2_with (at_builtin; refine wpList_append_own _ rfl (.tmp 39) (.tmp 41) 29 rfl w1.heap.size 37 j0 (.agg #[.int .u64 0, .int .i64 0, .int .i64 0, .bool false, .int .i64 0, .bool false]) 6 48 Try.underlying29 ji jz0 jz1 jz2 rfl (by decide) (.slice ao O.length co) O.length _ rfl hOw.out ⟨s + 1 + 1, 0, none⟩ 1 1 [.int .u64 y0, .int .i64 y1, .int .i64 y2, .bool y3, .int .i64 y4, .bool y5] rfl rfl HNw.out (by simp [Value.oneCell']) (by unfold maxLen; omega) (by omega) HS6.out ?_; intro v5 w5 how5 hgr5 _)
        have HF2 := hid (HFin.out _ _ how5 hgr5)
        clear how5 hgr5 HFin hOw e0 e1 e2 e3 e4 e5 HNw d0 d1 d2 d3 d4 d5
        go_wp2_with fail
        go_round
        case rel => exact ⟨j + 1, v5, by omega, by go_num, rfl, by rw [HE.out]; exact HF2.out⟩
        case measure => simp [intOf]; omega
    · have g3 : ¬ (j : Int) < (len : Int) := by omega
      obtain rfl : j = len := by omega
      have htk : l.take j = l := List.take_of_length_le (by rw [HL.out]; exact Nat.le_refl _)
      rw [htk] at HR
      have HFn : Hid (OwC M 37 wr v (l.filter F) ∧ Below M w wr) := ⟨own_low HR.out.1 (by omega), HR.out.2.2.1⟩
      clear HR htk HW
      go_wp2_with fail
      go_ret
      exact ⟨_, rfl, HFn.out⟩
end Go.Proofs.Ytmhpgkkaolcncaa
