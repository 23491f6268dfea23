/-
  Those that may be asked, in their order, the first of each number.
-/
import Derived.Test.YtmhpgkkaolcncaaRkWo
import Derived.Test.YtmhpgkkaolcncaaRkSat
namespace Go.Proofs.Ytmhpgkkaolcncaa
open Go.RowKit Go.Shelf Go.Sort
set_option linter.unusedVariables false
set_option maxRecDepth 1000000

theorem ins_nil (W : World) (fv : Value) : Calls Try.prog 39 #[.slice none 0 0, .int .i64 0, .int .i64 0, fv] W fun e w' => e = .returned (.tuple #[]) ∧ W = w' := by
  go_enter Try.func39, Try.ntmps39
  go_wp2_with fail
  refine wp_loop_rounds 1 ?_
  rw [rounds_succ]
  go_wp2
  go_end0
  exact ⟨rfl, rfl⟩
theorem stable_nil (W : World) (fv : Value) : Calls Try.prog 32 #[.slice none 0 0, .int .i64 0, fv] W fun e w' => e = .returned (.tuple #[]) ∧ W = w' := by
  have hI := ins_nil W fv
  go_enter Try.func32, Try.ntmps32
  go_wp2_with fail
  refine wp_loop_rounds 1 ?_
  rw [rounds_succ]
  go_wp2_with (go_at_call 39; refine hI.mono ?_; rintro e w' ⟨rfl, rfl⟩)
  refine wp_loop_rounds 1 ?_
  rw [rounds_succ]
  go_wp2
  go_end0
  exact ⟨rfl, rfl⟩
theorem sort_nil (W : World) (fv : Value) : Calls Try.prog 27 #[.slice none 0 0, fv] W fun e w' => e = .returned (.tuple #[]) ∧ W = w' := by
  have hI := stable_nil W fv
  go_enter Try.func27, Try.ntmps27
  go_wp2_with (go_at_call 32; refine hI.mono ?_; rintro e w' ⟨rfl, rfl⟩)
  go_end0
  exact ⟨rfl, rfl⟩
theorem sortM_any {q : Wt} {base : Nat} {W : World} {v : Value} {l : List Cd} (h : OwM q base W v l) (hl : l.length ≤ 60) :
    Calls Try.prog 27 #[v, .func (.func 28) #[] #[]] W fun e w' => e = .returned (.tuple #[]) ∧ Hid (OwM q base w' v (srtC q l) ∧ Below base W w') := by
  obtain ⟨a, cap, hv⟩ := own_sl19 h
  obtain ⟨n, hn⟩ : ∃ n, l.length = n := ⟨_, rfl⟩
  rw [hn] at hv
  subst hv
  have hp := (srtC_perm q l).length_eq
  cases a with
  | none =>
    have h0 : n = 0 ∧ cap = 0 := by
      rcases id h.2 with ⟨hv, h0⟩ | ⟨g, cap', cur, hv, _⟩
      · cases hv; exact ⟨rfl, rfl⟩
      · cases hv
    obtain ⟨rfl, rfl⟩ := h0
    obtain rfl : l = [] := List.eq_nil_of_length_eq_zero hn
    refine (sort_nil W _).mono ?_
    rintro e w' ⟨rfl, rfl⟩
    exact ⟨rfl, h, Below.refl _ _⟩
  | some ad =>
    obtain ⟨g, rfl⟩ : ∃ g, ad = ⟨g, 0, none⟩ := by
      rcases id h.2 with ⟨hv, h0⟩ | ⟨g, cap', cur, hv, _⟩
      · cases hv
      · cases hv; exact ⟨g, rfl⟩
    obtain ⟨R, hB⟩ := rowM h hn
    refine (sorted_any (cap := cap) R (by simpa using hn) (enters_of Try.func28 (by kernel_rfl) rfl) (mlays q g 0 n W) (cfC_bet q) (by omega)).mono ?_
    rintro e w' ⟨rfl, H⟩
    obtain ⟨d', e1, hS⟩ := H.out
    have hd : d'.size = n := by
      have := congrArg List.length e1
      simp at this
      omega
    have := sortedM h hn hd hS
    refine ⟨rfl, ?_, this.2⟩
    have e2 : d'.toList = srtC q l := by simpa using e1
    rw [← e2]
    exact this.1
theorem stepApp {P : Program} {w : World} {ops : Array Oper} {o : Oper} {a : Act} {K : Act → World → Prop} {Q : Exit → Act → World → Prop} {E : Prop} (hgd : o.guard = none) (d : Tmp) (hd : o.dst = some d) (s x : Operand) (t : TypeId)
    (ho : o.op = .call { callee := .builtin .append, args := #[s, x], argTypes := #[t, t] }) (v1 v2 v' : Value) (w' : World) (hs : a.eval s = v1) (hx : a.eval x = v2) (hr : (Builtin.append_ #[t, t] o.type #[v1, v2]).run P w = .ok v' w') (h : K (a.put (some d) v') w') :
    if Region.wanted o (yielded ops a.tmps) = true then Oper.wp P o a w K Q else E := by
  have hw : Region.wanted o (yielded ops a.tmps) = true := by simp [Region.wanted, hgd]
  rw [if_pos hw]
  unfold Oper.wp execOp
  simp only [ho, resolve, invoke, builtin, Sem.run_bind, Sem.run_pure, Result.andThen_ok, List.map_toArray, List.map_cons, List.map_nil, hs, hx, hr]
  show K (a.put o.dst _) w'
  rw [hd]
  exact h
set_option maxHeartbeats 8000000 in
theorem ordered_any {a : Option Addr} {len cap : Nat} {l : List Cd} {q : Wt} {w : World} (h : CsAt w a len cap l) (hl : len ≤ 60) (hc : ∀ c ∈ l, CdIn c) (hq : WtIn q) :
    Calls Try.prog 19 #[.slice a len cap, .agg (WtV q)] w fun e w' => ∃ v, e = .returned v ∧ Hid (OwM q w.heap.size w' v (ordC q l) ∧ Below w.heap.size w w') := by
  obtain ⟨kn, ld, bd, pl⟩ := q
  obtain ⟨q, hqe⟩ : ∃ q : Wt, q = ⟨kn, ld, bd, pl⟩ := ⟨_, rfl⟩
  have HMk := hid fun (c : Cd) (W : World) (hc : CdIn c) => mark_any c q W hc (hqe ▸ hq)
  rw [← hqe]
  have hqv : WtV q = #[.int .i64 kn, .int .i64 ld, .int .i64 bd, .int .i64 pl] := by rw [hqe]; rfl
  rw [hqv] at HMk ⊢
  obtain ⟨w1, hw1⟩ : ∃ w1, w1 = w.alloc (.cells #[.int .i64 kn, .int .i64 ld, .int .i64 bd, .int .i64 pl] 31) := ⟨_, rfl⟩
  have hb1 : Below w.heap.size w w1 := by rw [hw1]; exact (Below.refl _ _).alloc (Nat.le_refl _) _
  have hbx : w1.heap[w.heap.size]? = some (.cells #[.int .i64 kn, .int .i64 ld, .int .i64 bd, .int .i64 pl] 31 (0, 0)) := by rw [hw1]; exact heap_alloc_new w _
  have h1 := h.below hb1
  have hs1 : w1.heap.size = w.heap.size + 1 := by rw [hw1, World.size_alloc]
  generalize hgw : w.heap.size = gw at *
  have HC : Hid (∀ W' : World, Below w1.heap.size w1 W' → CsAt W' a len cap l) := fun W' hb => h1.below hb
  have HW : Hid (∀ W' : World, Below w1.heap.size w1 W' → W'.cell? ⟨gw, 0, none⟩ = some (.int .i64 kn) ∧ W'.cell? ⟨gw, 1, none⟩ = some (.int .i64 ld) ∧ W'.cell? ⟨gw, 2, none⟩ = some (.int .i64 bd) ∧ W'.cell? ⟨gw, 3, none⟩ = some (.int .i64 pl)) := fun W' hb => by
    have e := block_bel hbx hb
    refine ⟨?_, ?_, ?_, ?_⟩ <;> (rw [cell_of_row _ _ _ _ _ _ e]; rfl)
  have HX : Hid (∀ W' : World, Below w1.heap.size w1 W' → Below gw w W') := fun W' hb => hb1.trans (hb.mono (by omega))
  have HL := hid h.size
  have HI := hid hc
  have hrm := h.room
  have hms := h.most
  have HG := hid hs1
  clear h h1 hc hq hb1 hbx hqe hqv hs1
  go_enter Try.func19, Try.ntmps19
  go_wp2_with fail
  rw [← hw1]
  clear hw1
  go_loopw [5, 10] (fun o i W' => ∃ (k : Nat) (v : Value), k ≤ len ∧ i = .int .i64 k ∧ o = v ∧ Hid (OwM q w1.heap.size W' v ((l.take k).filter Cd.opn) ∧ Below w1.heap.size w1 W')) (fun _ i _ => len - (intOf i).toNat)
  case atStart => exact ⟨0, _, Nat.zero_le _, rfl, rfl, OwM.nil _ _ _, Below.refl _ _⟩
  case round =>
  obtain ⟨k, v, hk, rfl, hv, HR⟩ := hrel
  have hv' := hv.symm
  subst hv'
  rename World => wr
  by_cases hkn : k < len
  · have g1 : (k : Int) < (len : Int) := by omega
    obtain ⟨b0, off, rfl, hcc⟩ := (HC.out wr HR.out.2).cell k hkn
    obtain ⟨e0, e1, e2, e3, e4, e5⟩ := hcc
    have hkl : k < l.length := by rw [HL.out]; exact hkn
    have hsn : (l.take (k + 1)).filter Cd.opn = (l.take k).filter Cd.opn ++ [ck l k].filter Cd.opn := by rw [List.take_add_one, ck_get hkl, List.filter_append]; rfl
    have hci := HI.out _ (ck_mem hkl)
    have hOl : ((l.take k).filter Cd.opn).length ≤ k := by
      have h1 := List.length_filter_le Cd.opn (l.take k)
      have h2 := List.length_take_le k l
      omega
    have HFO := hid hsn
    have HMc := hid fun (W : World) => HMk.out _ W hci
    clear hsn hkl hci
    generalize (l.take k).filter Cd.opn = O at *
    generalize ck l k = c at *
    obtain ⟨y0, y1, y2, y3, y4, y5⟩ := c
    simp only at e0 e1 e2 e3 e4 e5
    obtain ⟨wB, hwB⟩ : ∃ wB, wB = wr.alloc (.cells #[.int .u64 y0, .int .i64 y1, .int .i64 y2, .bool y3, .int .i64 y4, .bool y5] 37) := ⟨_, rfl⟩
    have hbB : Below wr.heap.size wr wB := by rw [hwB]; exact (Below.refl _ _).alloc (Nat.le_refl _) _
    have hnB : wB.heap[wr.heap.size]? = some (.cells #[.int .u64 y0, .int .i64 y1, .int .i64 y2, .bool y3, .int .i64 y4, .bool y5] 37 (0, 0)) := by rw [hwB]; exact heap_alloc_new wr _
    have hVB : Below w1.heap.size w1 wB := HR.out.2.trans (hbB.mono HR.out.2.size)
    have hOB : OwM q w1.heap.size wB v O := own_below HR.out.1 hbB
    cases y5 with
    | false =>
      have HE : Hid ((l.take (k + 1)).filter Cd.opn = O) := by
        unfold Hid
        rw [HFO.out, List.filter_cons_of_neg (by simp)]
        simp
      have HFn : Hid (OwM q w1.heap.size wB v O ∧ Below w1.heap.size w1 wB) := ⟨hOB, hVB⟩
      rw [hwB] at HFn
      clear hwB hbB hnB hVB hOB HFO HMc HMk HC HW HX
      go_wp2_with fail
      go_round
      case rel => exact ⟨k + 1, v, by omega, by go_num, rfl, by rw [HE.out]; exact HFn.out⟩
      case measure => simp [intOf]; omega
    | true =>
      have HE : Hid ((l.take (k + 1)).filter Cd.opn = O ++ [⟨y0, y1, y2, y3, y4, true⟩]) := by
        unfold Hid
        rw [HFO.out, List.filter_cons_of_pos (by simp)]
        rfl
      unfold CdV at HMc
      simp only at HMc
      have HAp := hid fun (W' : World) (hb : Below wB.heap.size wB W') => appM (own_below hOB hb) (by omega) (Nat.le_trans hVB.size hb.size) ⟨y0, y1, y2, y3, y4, true⟩
      have HVB : Hid (∀ W' : World, Below wB.heap.size wB W' → Below w1.heap.size w1 W') := fun W' hb => hVB.trans (hb.mono hVB.size)
      obtain ⟨mk, HM⟩ : ∃ mk, Hid (markZ q ⟨y0, y1, y2, y3, y4, true⟩ = mk) := ⟨_, rfl⟩
      have HLt : ∀ g, v.ownBlock = some g → w1.heap.size ≤ g ∧ g < wr.heap.size := fun g hg => HR.out.1.lt g hg
      have hgw1 : gw < w1.heap.size := by have := HG.out; omega
      have HK : Hid (∀ W' : World, Below wB.heap.size wB W' → W'.cell? ⟨wr.heap.size, 0, none⟩ = some (.int .u64 y0) ∧ W'.cell? ⟨wr.heap.size, 1, none⟩ = some (.int .i64 y1) ∧ W'.cell? ⟨wr.heap.size, 2, none⟩ = some (.int .i64 y2) ∧ W'.cell? ⟨wr.heap.size, 3, none⟩ = some (.bool y3) ∧ W'.cell? ⟨wr.heap.size, 4, none⟩ = some (.int .i64 y4) ∧ W'.cell? ⟨wr.heap.size, 5, none⟩ = some (.bool true) ∧ W'.cell? ⟨gw, 0, none⟩ = some (.int .i64 kn) ∧ W'.cell? ⟨gw, 1, none⟩ = some (.int .i64 ld) ∧ W'.cell? ⟨gw, 2, none⟩ = some (.int .i64 bd) ∧ W'.cell? ⟨gw, 3, none⟩ = some (.int .i64 pl)) := fun W' hb => by
        have e1 := block_bel hnB hb
        refine ⟨?_, ?_, ?_, ?_, ?_, ?_, HW.out W' (HVB.out W' hb)⟩ <;> (rw [cell_of_row _ _ _ _ _ _ e1]; rfl)
      have HK2 : Hid (∀ W' w' : World, Below wB.heap.size wB W' → (∀ k, k < W'.heap.size → v.ownBlock ≠ some k → w'.heap[k]? = W'.heap[k]?) → w'.cell? ⟨wr.heap.size, 0, none⟩ = some (.int .u64 y0) ∧ w'.cell? ⟨wr.heap.size, 1, none⟩ = some (.int .i64 y1) ∧ w'.cell? ⟨wr.heap.size, 2, none⟩ = some (.int .i64 y2) ∧ w'.cell? ⟨wr.heap.size, 3, none⟩ = some (.bool y3) ∧ w'.cell? ⟨wr.heap.size, 4, none⟩ = some (.int .i64 y4) ∧ w'.cell? ⟨wr.heap.size, 5, none⟩ = some (.bool true) ∧ w'.cell? ⟨gw, 0, none⟩ = some (.int .i64 kn) ∧ w'.cell? ⟨gw, 1, none⟩ = some (.int .i64 ld) ∧ w'.cell? ⟨gw, 2, none⟩ = some (.int .i64 bd) ∧ w'.cell? ⟨gw, 3, none⟩ = some (.int .i64 pl)) := fun W' w' hb hk => by
        have hss : wr.heap.size < W'.heap.size := Nat.lt_of_lt_of_le (lt_of_block hnB) hb.size
        have e1 := (hk wr.heap.size hss (fun e => by have := HLt _ e; omega)).trans (block_bel hnB hb)
        have hgg : gw < W'.heap.size := by have := HR.out.2.size; omega
        have e2 : ∀ j, w'.cell? ⟨gw, j, none⟩ = W'.cell? ⟨gw, j, none⟩ := fun j => by
          simp only [World.cell?]
          rw [hk gw hgg (fun e => by have := HLt _ e; omega)]
        have h4 := HW.out W' (HVB.out W' hb)
        rw [e2, e2, e2, e2]
        refine ⟨?_, ?_, ?_, ?_, ?_, ?_, h4⟩ <;> (rw [cell_of_row _ _ _ _ _ _ e1]; rfl)
      have HAp2 : Hid (∀ W' : World, Below wB.heap.size wB W' → ∀ ty : TypeId, ∃ v' w', (Builtin.append_ #[48, 48] ty #[v, .slice (some ⟨W'.heap.size, 0, none⟩) 1 1]).run Try.prog (W'.alloc (.cells #[.int .u64 y0, .int .i64 y1, .int .i64 y2, .bool y3, .int .i64 y4, .bool true, .int .i64 mk] 51)) = .ok v' w' ∧ (OwM q w1.heap.size w' v' (O ++ [⟨y0, y1, y2, y3, y4, true⟩]) ∧ Below w1.heap.size w1 w') ∧ w'.cell? ⟨wr.heap.size, 0, none⟩ = some (.int .u64 y0) ∧ w'.cell? ⟨wr.heap.size, 1, none⟩ = some (.int .i64 y1) ∧ w'.cell? ⟨wr.heap.size, 2, none⟩ = some (.int .i64 y2) ∧ w'.cell? ⟨wr.heap.size, 3, none⟩ = some (.bool y3) ∧ w'.cell? ⟨wr.heap.size, 4, none⟩ = some (.int .i64 y4) ∧ w'.cell? ⟨wr.heap.size, 5, none⟩ = some (.bool true) ∧ w'.cell? ⟨gw, 0, none⟩ = some (.int .i64 kn) ∧ w'.cell? ⟨gw, 1, none⟩ = some (.int .i64 ld) ∧ w'.cell? ⟨gw, 2, none⟩ = some (.int .i64 bd) ∧ w'.cell? ⟨gw, 3, none⟩ = some (.int .i64 pl)) := fun W' hb ty => by
        have := HAp.out W' hb ty
        simp only [HM.out] at this
        obtain ⟨v', w', r1, r2, r3, r4⟩ := this
        exact ⟨v', w', r1, ⟨r2, (HVB.out W' hb).trans r3⟩, HK2.out W' w' hb r4⟩
      rw [HM.out] at HMc
      have hcB : wB.cell? ⟨wr.heap.size, 5, none⟩ = some (.bool true) := (HK.out wB (Below.refl _ _)).2.2.2.2.2.1
      have HV : Hid (Below wB.heap.size wB wB.drew) := (Below.refl _ _).drew
      clear hbB hnB hVB hOB HFO HAp HMk HC HX HR HK2 HLt hgw1
      generalize hs : wr.heap.size = s at *
      go_wp2_with fail
      rw [← hwB]
      clear hwB e0 e1 e2 e3 e4 e5 hcB
      have HAl : Hid (∀ W' : World, Below wB.heap.size wB W' → ∀ o : Obj, Below wB.heap.size wB (W'.alloc o)) := fun W' hb o => hb.alloc hb.size o
      go_region_held3 (fun W' : World => W'.cell? ⟨s, 0, none⟩ = some (.int .u64 y0) ∧ W'.cell? ⟨s, 1, none⟩ = some (.int .i64 y1) ∧ W'.cell? ⟨s, 2, none⟩ = some (.int .i64 y2) ∧ W'.cell? ⟨s, 3, none⟩ = some (.bool y3) ∧ W'.cell? ⟨s, 4, none⟩ = some (.int .i64 y4) ∧ W'.cell? ⟨s, 5, none⟩ = some (.bool true) ∧ W'.cell? ⟨gw, 0, none⟩ = some (.int .i64 kn) ∧ W'.cell? ⟨gw, 1, none⟩ = some (.int .i64 ld) ∧ W'.cell? ⟨gw, 2, none⟩ = some (.int .i64 bd) ∧ W'.cell? ⟨gw, 3, none⟩ = some (.int .i64 pl))
        (first | (with_reducible exact HK.out _ (Below.refl _ _)) | (with_reducible exact HK.out _ HV.out) | (with_reducible exact HK.out _ HV1.out) | (with_reducible exact HK.out _ (HAl.out _ HV1.out _)) | (with_reducible exact HS5.out))
        (first
          | (go_at_call 13; (with_reducible refine (HMc.out _).mono ?_); rintro e x1 ⟨rfl, h2⟩; have HV1 := hid (HV.out.trans (h2.out.mono HV.out.size)); obtain ⟨v5, w5, r5, o5, s5⟩ := HAp2.out x1 HV1.out 48; have HR5 := hid r5; have HO5 := hid o5; have HS5 := hid s5; clear h2 r5 o5 s5)
          | (refine stepApp (by rfl) 23 (by rfl) (.tmp 16) (.tmp 22) 48 (by rfl) _ _ _ _ (by first | (simp [Act.eval]; done) | (simp [Act.eval, Act.put]; done)) (by first | (simp [Act.eval]; done) | (simp [Act.eval, Act.put]; done)) HR5.out ?_)
          | fail)
      all_goals
        clear HW HVB HMc HAp2 HK HAl HV HV1 HR5 HS5 HM HI hOl
        go_wp2_with fail
        go_round
        case rel => exact ⟨k + 1, v5, by omega, by go_num, rfl, by rw [HE.out]; exact HO5.out⟩
        case measure => simp [intOf]; omega
  · have g1 : ¬ (k : Int) < (len : Int) := by omega
    obtain rfl : k = len := by omega
    have htk : l.take k = l := List.take_of_length_le (by rw [HL.out]; exact Nat.le_refl _)
    rw [htk] at HR
    have hll : (l.filter Cd.opn).length ≤ 60 := by
      have h1 := List.length_filter_le Cd.opn l
      have := HL.out
      omega
    have hS := sortM_any HR.out.1 hll
    have HP := hid (srtC_perm q (l.filter Cd.opn))
    have HFi := hid fun (W' : World) (a' : Option Addr) (n' c' : Nat) (hm : MsAt q W' a' n' c' (srtC q (l.filter Cd.opn))) (hn : n' ≤ 60) => firsts_any hm hn fun c hc => (HI.out c (List.mem_filter.1 (HP.out.mem_iff.1 hc)).1).rep
    have HXe := hid fun (W' : World) (hb : Below w1.heap.size wr W') => HX.out W' (HR.out.2.trans hb)
    have HV1 := hid HR.out.2
    clear HC HW HX HR HI htk HMk
    go_wp2_with fail
    with_reducible refine hS.mono ?_
    rintro e w2 ⟨rfl, H2⟩
    clear hS
    obtain ⟨a2, c2, hv2⟩ := own_sl19 H2.out.1
    obtain ⟨n2, hn2⟩ : ∃ n2, (srtC q (l.filter Cd.opn)).length = n2 := ⟨_, rfl⟩
    rw [hn2] at hv2
    subst hv2
    have hn60 : n2 ≤ 60 := by have := HP.out.length_eq; omega
    have hF := HFi.out w2 a2 n2 c2 (MsAt.own H2.out.1 hn2) hn60
    have HX2 := hid (HXe.out w2 H2.out.2)
    have HG2 : Hid (gw ≤ w2.heap.size) := by have := H2.out.2.size; have := HV1.out.size; have := HG.out; unfold Hid; omega
    clear HFi H2 HXe HV1
    go_wp2_with fail
    with_reducible refine hF.mono ?_
    rintro e w3 ⟨v3, rfl, H3⟩
    have HFn : Hid (OwM q gw w3 v3 (ordC q l) ∧ Below gw w w3) := ⟨own_low H3.out.1 HG2.out, HX2.out.trans (H3.out.2.mono HG2.out)⟩
    clear hF H3 HX2
    go_wp2_with fail
    go_ret
    exact ⟨_, rfl, HFn.out⟩
end Go.Proofs.Ytmhpgkkaolcncaa
