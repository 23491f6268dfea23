/-
  The document's Sorted.
-/
import Derived.Test.YtmhpgkkaolcncaaRkMath2
namespace Go.Proofs.Ytmhpgkkaolcncaa
open Go.RowKit
set_option linter.unusedVariables false
set_option maxRecDepth 1000000

/-- A row of candidates of the call's own. -/
def OwC (base : Nat) (e : TypeId) (W : World) (v : Value) (l : List Cd) : Prop := W.ownsRow base e 6 v l.length (flatC l)
theorem OwC.nil (base : Nat) (e : TypeId) (W : World) : OwC base e W (.slice none 0 0) [] := World.ownsRow_nil _ _ _ _
theorem own_low {base base' e size n : Nat} {v : Value} {xs : List Value} {w : World} (h : w.ownsRow base e size v n xs) (hb : base' ≤ base) : w.ownsRow base' e size v n xs := by
  refine ⟨h.1, ?_⟩
  rcases h.2 with h' | ⟨g', c, cur, hv, hB, rest⟩
  · exact .inl h'
  · exact .inr ⟨g', c, cur, hv, Nat.le_trans hb hB, rest⟩
theorem own_ty {base e size n : Nat} {v : Value} {xs : List Value} {w : World} (h : w.ownsRow base e size v n xs) {b : Nat} (hb : v.ownBlock = some b) : ∃ cur, w.heap[b]? = some (.cells cur e (0, 0)) := by
  rcases h.2 with ⟨hv, _⟩ | ⟨g, cap, cur, hv, _, hg, _⟩
  · rw [hv] at hb; cases hb
  · rw [hv] at hb; cases hb; exact ⟨cur, hg⟩
/-- What the rounds hold: the list O in the row v, which should be X. -/
structure RdQ (w : World) (q : Wt) (l : List Cd) (g k : Nat) (X O : List Cd) (bs : List Bool) (v : Value) (W : World) : Prop where
  st : ∃ P, StQ q l bs P k ∧ P.foldl addC [] = X
  own : OwC w.heap.size 36 W v O
  met : OwnB g l.length bs W
  gle : w.heap.size ≤ g
  glt : g < W.heap.size
  bel : Below w.heap.size w W
  few : O.length ≤ k
theorem RdQ.below {w : World} {q : Wt} {l : List Cd} {g k : Nat} {X O : List Cd} {bs : List Bool} {v : Value} {W W' : World} (h : RdQ w q l g k X O bs v W) (hb : Below W.heap.size W W') : RdQ w q l g k X O bs v W' :=
  ⟨h.st, own_below h.own hb, h.met.below hb h.glt, h.gle, Nat.lt_of_lt_of_le h.glt hb.size, h.bel.trans (hb.mono h.bel.size), h.few⟩
/-- The rounds' end: nothing is left. -/
theorem RdQ.ends {w : World} {q : Wt} {l : List Cd} {g k : Nat} {O : List Cd} {bs : List Bool} {v : Value} {W : World} (h : RdQ w q l g k O O bs v W) (hb : BestQ q l bs l.length (-1)) : O = ordC q l := by
  obtain ⟨P, h1, h2⟩ := h.st
  rw [← h2]; exact h1.none hb
theorem RdQ.last {w : World} {q : Wt} {l : List Cd} {g k : Nat} {O : List Cd} {bs : List Bool} {v : Value} {W : World} (h : RdQ w q l g k O O bs v W) (hk : k = l.length) : O = ordC q l := by
  obtain ⟨P, h1, h2⟩ := h.st
  subst hk
  rw [← h2]; exact h1.last
theorem RdQ.off {w : World} {q : Wt} {l : List Cd} {g k : Nat} {X O : List Cd} {bs : List Bool} {v : Value} {W : World} (h : RdQ w q l g k X O bs v W) {b : Nat} (hb : v.ownBlock = some b) : b ≠ g := by
  rintro rfl
  obtain ⟨c1, h1⟩ := own_ty h.own hb
  obtain ⟨c2, h2⟩ := own_ty h.met (b := b) rfl
  rw [h1] at h2
  simp at h2
/-- One is taken. -/
theorem RdQ.took {w : World} {q : Wt} {l : List Cd} {g k b : Nat} {O : List Cd} {bs : List Bool} {v : Value} {W : World} (h : RdQ w q l g k O O bs v W) (hb : BestQ q l bs l.length (b : Int)) : RdQ w q l g (k + 1) (addC O (ck l b)) O (bs.set b true) v (W.setCell ⟨g, b, none⟩ (.bool true)) := by
  obtain ⟨P, h1, h2⟩ := h.st
  obtain ⟨h3, h4⟩ := h1.step hb
  refine ⟨⟨_, h4, by rw [fold_snoc, h2]⟩, own_blk h.own fun c hc => Below.heap_setCell _ _ _ _ (h.off hc), h.met.set b true, h.gle, by simpa [World.setCell] using h.glt, h.bel.setCell h.gle _, by have := h.few; omega⟩
theorem RdQ.again {w : World} {q : Wt} {l : List Cd} {g k : Nat} {O : List Cd} {c : Cd} {bs : List Bool} {v : Value} {W : World} (h : RdQ w q l g k (addC O c) O bs v W) (hm : c.rep ∈ O.map Cd.rep) : RdQ w q l g k O O bs v W := by
  rw [addC_old hm] at h
  exact h
theorem RdQ.put {w : World} {q : Wt} {l : List Cd} {g k : Nat} {O : List Cd} {c : Cd} {bs : List Bool} {v v' : Value} {W W' : World} (h : RdQ w q l g (k + 1) (addC O c) O bs v W) (hk : O.length ≤ k) (hm : c.rep ∉ O.map Cd.rep)
    (h1 : W'.ownsRow w.heap.size 36 6 v' (O.length + 1) (flatC O ++ flatC [c])) (h2 : W.grownBy W' v.ownBlock) : RdQ w q l g (k + 1) (O ++ [c]) (O ++ [c]) bs v' W' := by
  have hst := h.st
  rw [addC_new hm] at hst
  refine ⟨hst, ?_, ?_, h.gle, Nat.lt_of_lt_of_le h.glt h2.size, ?_, ?_⟩
  · unfold OwC
    rw [List.length_append, flatC_app]
    exact h1
  · refine ⟨h.met.1, ?_⟩
    rcases id h.met.2 with h' | ⟨g', c', cur, hv, hB, hg, rest⟩
    · exact .inl h'
    · cases hv
      exact .inr ⟨g, l.length, cur, rfl, hB, (h2.block g h.glt fun e => h.off e.symm rfl).trans hg, rest⟩
  · exact h.bel.grown h2 h.bel.size fun b hb => (h.own.lt b hb).1
  · rw [List.length_append]; simp; omega
set_option maxHeartbeats 8000000 in
theorem rsorted_any (a : Option Addr) (len cap : Nat) (l : List Cd) (q : Wt) (w : World) (h : CsAt w a len cap l) (hl : len ≤ 60) :
    Calls Try.prog 12 #[.slice a len cap, .agg (WtV q)] w fun e w' => ∃ v, e = .returned v ∧ Hid (OwC w.heap.size 36 w' v (ordC q l) ∧ Below w.heap.size w w') := by
  obtain ⟨kn, ld, bd, pl⟩ := q
  unfold WtV
  simp only
  obtain ⟨w1, hw1⟩ : ∃ w1, w1 = w.alloc (.cells #[.int .i64 kn, .int .i64 ld, .int .i64 bd, .int .i64 pl] 24) := ⟨_, rfl⟩
  have hb1 : Below w.heap.size w w1 := by rw [hw1]; exact (Below.refl _ _).alloc (Nat.le_refl _) _
  have hbx : w1.heap[w.heap.size]? = some (.cells #[.int .i64 kn, .int .i64 ld, .int .i64 bd, .int .i64 pl] 24 (0, 0)) := by rw [hw1]; exact heap_alloc_new w _
  have hmk := make_bools w1 len (by omega)
  have ho0 := own_bools w1 len (by omega)
  have h1 := h.below hb1
  obtain ⟨gw, hgw⟩ : ∃ gw, w.heap.size = gw := ⟨_, rfl⟩
  rw [hgw] at hbx
  have hgl : gw < w1.heap.size := lt_of_block hbx
  obtain ⟨g, hg⟩ : ∃ g, w1.heap.size = g := ⟨_, rfl⟩
  rw [hg, hw1] at hmk
  rw [hg] at ho0
  have hn : l.length = len := h.size
  have HR0 : Hid (RdQ w1 ⟨kn, ld, bd, pl⟩ l g 0 [] [] (List.replicate len false) (.slice none 0 0) (w1.alloc (.cells (madeCells #[.bool false] len) 4))) :=
    ⟨⟨[], by rw [← hn]; exact StQ.start _ l, rfl⟩, OwC.nil _ _ _, by rw [hn]; exact ho0, by omega, by rw [World.size_alloc]; omega, (Below.refl _ _).alloc (Nat.le_refl _) _, Nat.le_refl _⟩
  have HW : Hid (∀ W' : World, Below w1.heap.size w1 W' → CsAt W' a len cap l ∧ W'.cell? ⟨gw, 0, none⟩ = some (.int .i64 kn) ∧ W'.cell? ⟨gw, 1, none⟩ = some (.int .i64 ld) ∧ W'.cell? ⟨gw, 2, none⟩ = some (.int .i64 bd) ∧ W'.cell? ⟨gw, 3, none⟩ = some (.int .i64 pl)) := fun W' hb => by
    have e := block_bel hbx hb
    refine ⟨h1.below hb, ?_, ?_, ?_, ?_⟩ <;> (rw [cell_of_row _ _ _ _ _ _ e]; rfl)
  have HEnd : Hid (∀ (v : Value) (W' : World), OwC w1.heap.size 36 W' v (ordC ⟨kn, ld, bd, pl⟩ l) → Below w1.heap.size w1 W' → Hid (OwC w.heap.size 36 W' v (ordC ⟨kn, ld, bd, pl⟩ l) ∧ Below w.heap.size w W')) := fun v W' h2 h3 =>
    ⟨own_low h2 hb1.size, hb1.trans (h3.mono hb1.size)⟩
  have HBt := hid fun (c d : Cd) (W : World) => rbetter_any c d ⟨kn, ld, bd, pl⟩ W
  unfold WtV at HBt
  simp only at HBt
  obtain ⟨q, hq⟩ : ∃ q : Wt, q = ⟨kn, ld, bd, pl⟩ := ⟨_, rfl⟩
  rw [← hq] at HR0 HEnd HBt ⊢
  have HG := hid hg
  have HL := hid hn
  clear h h1 hb1 hbx ho0 hq hgl
  go_enter Try.func12, Try.ntmps12
  go_wp2_with fail
  rw [← hw1]
  clear hmk hg hn hw1 hgw
  obtain ⟨j0, ji, jz0, jz1, jz2⟩ := Go.info_parts Try.infoCd
  go_loopw [5, 7] (fun o j W' => ∃ (k : Nat) (O : List Cd) (bs : List Bool) (v : Value), k ≤ len ∧ j = .int .i64 k ∧ o = v ∧ Hid (RdQ w1 q l g k O O bs v W')) (fun _ j _ => len - (intOf j).toNat)
  case atStart => exact ⟨0, [], _, _, Nat.zero_le _, rfl, rfl, HR0⟩
  case round =>
  obtain ⟨k, O, bs, v, hk, rfl, hv, HR⟩ := hrel
  have hv' := hv.symm
  subst hv'
  clear HR0
  rename World => wr
  by_cases hkn : k < len
  · have g1 : (k : Int) < (len : Int) := by omega
    go_wp2_with fail
    go_loopw [8, 9] (fun z i W' => ∃ (i' : Nat) (y : Int), i' ≤ len ∧ i = .int .i64 i' ∧ z = .int .i64 y ∧ Hid (BestQ q l bs i' y ∧ Below wr.heap.size wr W')) (fun _ i _ => len - (intOf i).toNat)
    case atStart => exact ⟨0, -1, Nat.zero_le _, rfl, rfl, BestQ.start _ _ _, Below.refl _ _⟩
    case round =>
    obtain ⟨i, y, hi, rfl, rfl, HB⟩ := hrel
    rename World => wi
    have hR := HR.out.below HB.out.2
    by_cases hin : i < len
    · have g2 : (i : Int) < (len : Int) := by omega
      obtain ⟨b0, off, ha, hc⟩ := (HW.out wi hR.bel).1.cell i hin
      subst ha
      have cm : wi.cell? ⟨g, i, none⟩ = some (.bool (mt bs i)) := hR.met.cell (by rw [HL.out]; exact hin)
      have c5 := hc.c5
      have HD : Hid (∀ n, Below wr.heap.size wr (wi.drewN n)) := fun n => ⟨HB.out.2.os, HB.out.2.tape, HB.out.2.output, HB.out.2.size, HB.out.2.block⟩
      cases hm : mt bs i with
      | true =>
        rw [hm] at cm
        have HN := hid (HB.out.1.skip (k := i) (fun h => by have := h.1; rw [hm] at this; cases this))
        clear hR hc c5 hm HB HBt
        go_wp2_with fail
        go_quiet (fail)
        go_wp2_with fail
        go_round
        case rel => exact ⟨i + 1, y, by omega, by go_num, rfl, HN.out, HD.out _⟩
        case measure => simp [intOf]; omega
      | false =>
        rw [hm] at cm
        cases ho : (ck l i).opn with
        | false =>
          rw [ho] at c5
          have HN := hid (HB.out.1.skip (k := i) (fun h => by have := h.2; rw [ho] at this; cases this))
          clear hR hc hm ho HB HBt
          go_wp2_with fail
          go_quiet (fail)
          go_wp2_with fail
          go_round
          case rel => exact ⟨i + 1, y, by omega, by go_num, rfl, HN.out, HD.out _⟩
          case measure => simp [intOf]; omega
        | true =>
          rw [ho] at c5
          rcases HB.out.1.lt with rfl | ⟨b, rfl, hb⟩
          · have HN := hid (HB.out.1.first (k := i) ⟨hm, ho⟩)
            have d1 : decide ((-1 : Int) < 0) = true := by decide
            clear hR hc hm ho HB HBt
            go_wp2_with fail
            go_quiet (fail)
            go_wp2_with fail
            go_round
            case rel => exact ⟨i + 1, (i : Int), by omega, by go_num, rfl, HN.out, HD.out _⟩
            case measure => simp [intOf]; omega
          · have HY : Hid (bet q (ck l i) (ck l b) = true → BestQ q l bs (i + 1) (i : Int)) := fun h => HB.out.1.better ⟨hm, ho⟩ h
            have HN : Hid (bet q (ck l i) (ck l b) = false → BestQ q l bs (i + 1) (b : Int)) := fun h => HB.out.1.worse h
            have HBe := hid fun (W : World) => HBt.out (ck l i) (ck l b) W
            obtain ⟨b0', off', ha', hc'⟩ := (HW.out wi hR.bel).1.cell b (by omega)
            obtain ⟨rfl, rfl⟩ : b0 = b0' ∧ off = off' := by cases ha'; exact ⟨rfl, rfl⟩
            obtain ⟨q1, q2, q3, q4⟩ := (HW.out wi hR.bel).2
            have HB2 := hid HB.out.2
            clear hR hm HB HBt ha' c5 HD
            generalize ck l i = ci at *
            generalize ck l b = cb at *
            generalize bet q ci cb = bv at *
            obtain ⟨r1, l1, kn1, b1, p1, o1⟩ := ci
            obtain ⟨r2, l2, kn2, b2, p2, o2⟩ := cb
            simp only at ho
            subst ho
            unfold CdV at HBe
            simp only at HBe
            have HK : Hid (∀ W' : World, Below wi.heap.size wi W' → W'.cell? ⟨g, i, none⟩ = some (.bool false) ∧ W'.cell? ⟨b0, off + i * 6, none⟩ = some (.int .u64 r1) ∧ W'.cell? ⟨b0, off + i * 6 + 1, none⟩ = some (.int .i64 l1) ∧ W'.cell? ⟨b0, off + i * 6 + 2, none⟩ = some (.int .i64 kn1) ∧ W'.cell? ⟨b0, off + i * 6 + 3, none⟩ = some (.bool b1) ∧ W'.cell? ⟨b0, off + i * 6 + 4, none⟩ = some (.int .i64 p1) ∧ W'.cell? ⟨b0, off + i * 6 + 5, none⟩ = some (.bool true) ∧ W'.cell? ⟨b0, off + b * 6, none⟩ = some (.int .u64 r2) ∧ W'.cell? ⟨b0, off + b * 6 + 1, none⟩ = some (.int .i64 l2) ∧ W'.cell? ⟨b0, off + b * 6 + 2, none⟩ = some (.int .i64 kn2) ∧ W'.cell? ⟨b0, off + b * 6 + 3, none⟩ = some (.bool b2) ∧ W'.cell? ⟨b0, off + b * 6 + 4, none⟩ = some (.int .i64 p2) ∧ W'.cell? ⟨b0, off + b * 6 + 5, none⟩ = some (.bool o2) ∧ W'.cell? ⟨gw, 0, none⟩ = some (.int .i64 kn) ∧ W'.cell? ⟨gw, 1, none⟩ = some (.int .i64 ld) ∧ W'.cell? ⟨gw, 2, none⟩ = some (.int .i64 bd) ∧ W'.cell? ⟨gw, 3, none⟩ = some (.int .i64 pl)) := fun W' hb => by
              have e1 := hc.below hb
              have e2 := hc'.below hb
              have f : ∀ {p : Addr} {v : Value}, wi.cell? p = some v → W'.cell? p = some v := fun hc => (hb.cell (World.block_lt_of_cell? _ _ hc)).trans hc
              exact ⟨f cm, e1.c0, e1.c1, e1.c2, e1.c3, e1.c4, e1.c5, e2.c0, e2.c1, e2.c2, e2.c3, e2.c4, e2.c5, f q1, f q2, f q3, f q4⟩
            clear hc hc' cm q1 q2 q3 q4
            have g3 : (b : Int) < (len : Int) := by omega
            have d1 : decide ((b : Int) < 0) = false := decide_eq_false (by omega)
            have HV : Hid (Below wi.heap.size wi wi.drew) := (Below.refl _ _).drew
            go_wp2_with fail
            go_region_held3 (fun W' : World => W'.cell? ⟨g, i, none⟩ = some (.bool false) ∧ W'.cell? ⟨b0, off + i * 6, none⟩ = some (.int .u64 r1) ∧ W'.cell? ⟨b0, off + i * 6 + 1, none⟩ = some (.int .i64 l1) ∧ W'.cell? ⟨b0, off + i * 6 + 2, none⟩ = some (.int .i64 kn1) ∧ W'.cell? ⟨b0, off + i * 6 + 3, none⟩ = some (.bool b1) ∧ W'.cell? ⟨b0, off + i * 6 + 4, none⟩ = some (.int .i64 p1) ∧ W'.cell? ⟨b0, off + i * 6 + 5, none⟩ = some (.bool true) ∧ W'.cell? ⟨b0, off + b * 6, none⟩ = some (.int .u64 r2) ∧ W'.cell? ⟨b0, off + b * 6 + 1, none⟩ = some (.int .i64 l2) ∧ W'.cell? ⟨b0, off + b * 6 + 2, none⟩ = some (.int .i64 kn2) ∧ W'.cell? ⟨b0, off + b * 6 + 3, none⟩ = some (.bool b2) ∧ W'.cell? ⟨b0, off + b * 6 + 4, none⟩ = some (.int .i64 p2) ∧ W'.cell? ⟨b0, off + b * 6 + 5, none⟩ = some (.bool o2) ∧ W'.cell? ⟨gw, 0, none⟩ = some (.int .i64 kn) ∧ W'.cell? ⟨gw, 1, none⟩ = some (.int .i64 ld) ∧ W'.cell? ⟨gw, 2, none⟩ = some (.int .i64 bd) ∧ W'.cell? ⟨gw, 3, none⟩ = some (.int .i64 pl)) (first | (with_reducible exact HK.out _ (Below.refl _ _)) | (with_reducible exact HK.out _ HV.out))
              (first
                | (go_at_call 20; (with_reducible refine (HBe.out _).mono ?_); rintro e y1 ⟨rfl, hb⟩; replace HV := hid (HV.out.trans (hb.out.mono HV.out.size)); clear hb))
            all_goals
              have HE : Hid (Below wr.heap.size wr _) := HB2.out.trans (HV.out.mono HB2.out.size)
              clear HK HV HB2 HBe
              cases bv with
              | true =>
                have HN2 := hid (HY.out rfl)
                clear HY HN
                go_wp2_with fail
                go_round
                case rel => exact ⟨i + 1, (i : Int), by omega, by go_num, rfl, HN2.out, HE.out⟩
                case measure => simp [intOf]; omega
              | false =>
                have HN2 := hid (HN.out rfl)
                clear HY HN
                go_wp2_with fail
                go_round
                case rel => exact ⟨i + 1, (b : Int), by omega, by go_num, rfl, HN2.out, HE.out⟩
                case measure => simp [intOf]; omega
    · have g2 : ¬ (i : Int) < (len : Int) := by omega
      obtain rfl : i = len := by omega
      rcases HB.out.1.lt with rfl | ⟨b, rfl, hb⟩
      · have HF := hid (HEnd.out _ wi (by have := hR.own; rwa [hR.ends (by rw [HL.out]; exact HB.out.1)] at this) hR.bel)
        clear hR HB HBt
        go_wp2_with fail
        go_ret
        exact ⟨_, rfl, HF.out⟩
      · have g3 : ¬ (b : Int) < 0 := by omega
        have g4 : (b : Int) < (i : Int) := by omega
        obtain ⟨ao, co, hv⟩ := own_sl19 hR.own
        obtain ⟨m, Hm⟩ : ∃ m, Hid (O.length = m) := ⟨_, rfl⟩
        rw [Hm.out] at hv
        subst hv
        have fz : wi.frozen? ⟨g, b, none⟩ = false := hR.met.frozen b
        have cz : wi.cell? ⟨g, b, none⟩ = some (.bool (mt bs b)) := hR.met.cell (by rw [HL.out]; exact hb)
        have HT := hid (hR.took (by rw [HL.out]; exact HB.out.1))
        obtain ⟨c, hcq⟩ : ∃ c, ck l b = c := ⟨_, rfl⟩
        rw [hcq] at HT
        have hm60 : m ≤ 60 := by have := hR.few; rw [Hm.out] at this; omega
        have hmk : O.length ≤ k := hR.few
        have Hmk := hid hmk
        have HWc : Hid (∀ W' : World, Below w1.heap.size w1 W' → ∃ b0 off, a = some ⟨b0, off, none⟩ ∧ CdAt W' b0 (off + b * 6) c) := fun W' hb' => by
          have := (HW.out W' hb').1.cell b hb
          rwa [hcq] at this
        clear hR HB HBt HW hcq hmk HR
        go_wp2_with fail
        obtain ⟨w3, hw3⟩ : ∃ w3, w3 = wi.setCell ⟨g, b, none⟩ (.bool true) := ⟨_, rfl⟩
        rw [← hw3] at HT ⊢
        clear hw3 fz cz
        go_loopw [10, 11] (fun t i W' => ∃ (j : Nat), j ≤ m ∧ i = .int .i64 j ∧ t = .bool (decide (c.rep ∈ (O.take j).map Cd.rep)) ∧ Hid (Below w3.heap.size w3 W')) (fun _ i _ => m - (intOf i).toNat)
        case atStart => exact ⟨0, Nat.zero_le _, rfl, rfl, Below.refl _ _⟩
        case round =>
        obtain ⟨j, hj, rfl, rfl, HB⟩ := hrel
        rename World => w4
        have hT := HT.out.below HB.out
        obtain ⟨b0, off, rfl, hc⟩ := HWc.out w4 hT.bel
        by_cases hjm : j < m
        · have g5 : (j : Int) < (m : Int) := by omega
          obtain ⟨b2, o2, rfl, hc2⟩ := (CsAt.own (l := O) (n := m) (by have := hT.own; unfold OwC at this; rw [Hm.out] at this; exact this)).cell j hjm
          have e0 := hc.c0
          have e1 := hc2.c0
          have hjO : j < O.length := by rw [Hm.out]; exact hjm
          have HD : Hid (∀ n, Below w3.heap.size w3 (w4.drewN n)) := fun n => ⟨HB.out.os, HB.out.tape, HB.out.output, HB.out.size, HB.out.block⟩
          have hsn : (O.take (j + 1)).map Cd.rep = (O.take j).map Cd.rep ++ [(ck O j).rep] := by rw [List.take_add_one, ck_get hjO, List.map_append]; rfl
          by_cases hmem : c.rep ∈ (O.take j).map Cd.rep
          · have HSn : Hid (decide (c.rep ∈ (O.take (j + 1)).map Cd.rep) = true) := by unfold Hid; rw [hsn]; exact decide_eq_true (List.mem_append.2 (.inl hmem))
            have HSo : Hid (decide (c.rep ∈ (O.take j).map Cd.rep) = true) := decide_eq_true hmem
            rw [HSo.out]
            clear hc hc2 hT HB hsn hmem
            generalize c.rep = x at *
            generalize (ck O j).rep = z at *
            go_wp2_with fail
            go_quiet (fail)
            go_wp2_with fail
            go_round
            case rel => exact ⟨j + 1, by omega, by go_num, by rw [HSn.out], HD.out _⟩
            case measure => simp [intOf]; omega
          · have HSo : Hid (decide (c.rep ∈ (O.take j).map Cd.rep) = false) := decide_eq_false hmem
            rw [HSo.out]
            by_cases hz : (ck O j).rep = c.rep
            · have HSn : Hid (decide (c.rep ∈ (O.take (j + 1)).map Cd.rep) = true) := by unfold Hid; rw [hsn]; exact decide_eq_true (List.mem_append.2 (.inr (by simp [hz])))
              have hz2 : ((ck O j).rep == c.rep) = true := by simp [hz]
              clear hc hc2 hT HB hsn hmem hz
              generalize c.rep = x at *
              generalize (ck O j).rep = z at *
              go_wp2_with fail
              go_quiet (fail)
              go_wp2_with fail
              go_round
              case rel => exact ⟨j + 1, by omega, by go_num, by rw [HSn.out], HD.out _⟩
              case measure => simp [intOf]; omega
            · have HSn : Hid (decide (c.rep ∈ (O.take (j + 1)).map Cd.rep) = false) := by
                unfold Hid; rw [hsn]
                refine decide_eq_false fun h => ?_
                rcases List.mem_append.1 h with h | h
                · exact hmem h
                · exact hz (List.mem_singleton.1 h).symm
              have hz2 : ((ck O j).rep == c.rep) = false := by simp [hz]
              clear hc hc2 hT HB hsn hmem hz
              generalize c.rep = x at *
              generalize (ck O j).rep = z at *
              go_wp2_with fail
              go_quiet (fail)
              go_wp2_with fail
              go_round
              case rel => exact ⟨j + 1, by omega, by go_num, by rw [HSn.out], HD.out _⟩
              case measure => simp [intOf]; omega
        · have g5 : ¬ (j : Int) < (m : Int) := by omega
          obtain rfl : j = m := by omega
          have hto : O.take j = O := List.take_of_length_le (by rw [Hm.out]; exact Nat.le_refl _)
          rw [hto]
          by_cases hmem : c.rep ∈ O.map Cd.rep
          · have HSo : Hid (decide (c.rep ∈ O.map Cd.rep) = true) := decide_eq_true hmem
            rw [HSo.out]
            have HF := hid (hT.again hmem)
            clear hT hc HB hto hmem HSo
            go_wp2_with fail
            go_round
            case rel => exact ⟨k + 1, O, _, _, by omega, by go_num, rfl, HF.out⟩
            case measure => simp [intOf]; omega
          · have HSo : Hid (decide (c.rep ∈ O.map Cd.rep) = false) := decide_eq_false hmem
            rw [HSo.out]
            have how : Hid (∀ W' : World, Below w4.heap.size w4 W' → RdQ w1 q l g (k + 1) (addC O c) O (bs.set b true) (.slice ao j co) W') := fun W' hb' => hT.below hb'
            have hmem' := hid hmem
            have HBa : Hid (∀ o : Obj, Below w4.heap.size w4 (w4.alloc o)) := fun o => (Below.refl _ _).alloc (Nat.le_refl _) o
            have HPut : Hid (∀ (W4 W5 : World) (v5 : Value), Below w4.heap.size w4 W4 → W5.ownsRow w1.heap.size 36 6 v5 (j + 1) (flatC O ++ flatC [c]) → W4.grownBy W5 (Value.slice ao j co).ownBlock → RdQ w1 q l g (k + 1) (O ++ [c]) (O ++ [c]) (bs.set b true) v5 W5) := fun W4 W5 v5 h1 h2 h3 => (how.out W4 h1).put Hmk.out hmem'.out (by rw [Hm.out]; exact h2) h3
            have hOw : Hid (∀ W4 : World, Below w4.heap.size w4 W4 → W4.ownsRow w1.heap.size 36 6 (.slice ao j co) j (flatC O) ∧ w1.heap.size ≤ W4.heap.size) := fun W4 h1 => by
              have h2 := (how.out W4 h1)
              refine ⟨?_, h2.bel.size⟩
              have := h2.own
              unfold OwC at this
              rwa [Hm.out] at this
            obtain ⟨e0, e1, e2, e3, e4, e5⟩ := hc
            clear hT HB hto hmem HSo how hmem' Hmk
            obtain ⟨x0, x1, x2, x3, x4, x5⟩ := c
            simp only at e0 e1 e2 e3 e4 e5
            go_wp2_with (at_builtin; refine wpList_append_own _ rfl (.tmp 84) (.tmp 89) 22 rfl w1.heap.size 36 j0 (.agg #[.int .u64 0, .int .i64 0, .int .i64 0, .bool false, .int .i64 0, .bool false]) 6 48 Try.underlying22 ji jz0 jz1 jz2 rfl (by decide) (.slice ao j co) j (flatC O) rfl (hOw.out _ (HBa.out _)).1 ⟨w4.heap.size, 0, none⟩ 1 1 [.int .u64 x0, .int .i64 x1, .int .i64 x2, .bool x3, .int .i64 x4, .bool x5] rfl rfl (World.news_of_block (heap_alloc_new w4 _)) (by simp [Value.oneCell']) (by unfold maxLen; omega) (by omega) (hOw.out _ (HBa.out _)).2 ?_; intro v5 w5 how5 hgr5 _)
            have HF := hid (HPut.out _ _ _ (HBa.out _) how5 hgr5)
            clear how5 hgr5 HPut hOw HBa e0 e1 e2 e3 e4 e5
            go_wp2_with fail
            go_round
            case rel => exact ⟨k + 1, _, _, v5, by omega, by go_num, rfl, HF.out⟩
            case measure => simp [intOf]; omega
  · have g1 : ¬ (k : Int) < (len : Int) := by omega
    have HF := hid (HEnd.out _ wr (by have := HR.out.own; rwa [HR.out.last (by rw [HL.out]; omega)] at this) HR.out.bel)
    clear HR HBt
    go_wp2_with fail
    go_ret
    exact ⟨_, rfl, HF.out⟩
end Go.Proofs.Ytmhpgkkaolcncaa
