/-
  A set of numbers (StAt); the first of each number.
-/
import Derived.Test.YtmhpgkkaolcncaaRkMap
import Derived.Test.YtmhpgkkaolcncaaRkRow
namespace Go.Proofs.Ytmhpgkkaolcncaa
open Go.RowKit Go.Maps
set_option linter.unusedVariables false
set_option maxRecDepth 1000000

/-- How an element of a set reads. -/
def Rs : Value → Option (DataW Unit × List MemPlace)
  | .agg xs => if xs.size = 0 then some (.lit (.int .i64 0), []) else none
  | _ => none
theorem Rs_mk : Rs (.agg #[]) = some (.lit (.int .i64 0), []) := rfl
theorem Rs_inv {v : Value} {r : DataW Unit × List MemPlace} (h : Rs v = some r) : v = .agg #[] := by
  cases v with
  | agg xs =>
    simp only [Rs] at h
    by_cases h0 : xs.size = 0
    · rw [Array.eq_empty_of_size_eq_zero h0]
    · rw [if_neg h0] at h
      cases h
  | _ => cases h
theorem szero (w : World) : (zeroValue 64).run Try.prog w = .ok (.agg #[]) w := by kernel_rfl
/-- The map in block B has just the keys of K (n: how many stores there were, at most). -/
def StAt (W : World) (B n : Nat) (K : List Int) : Prop :=
  ∃ D : DataW Unit, W.ownsMap Try.prog 34 Rs B n D ∧ ∀ x, isU x → Maps.has D (.int .u64 x) = decide (x ∈ K)
theorem StAt.new (w : World) : StAt (w.alloc (.map #[] 0)) w.heap.size 0 [] := ⟨.map [], World.ownsMap_made _ _ _ _, fun v _ => by simp; rfl⟩
theorem StAt.lt {W : World} {B n : Nat} {K : List Int} (h : StAt W B n K) : B < W.heap.size := by obtain ⟨D, h1, _⟩ := h; exact h1.lt
theorem StAt.same {W W' : World} {B n : Nat} {K : List Int} (h : StAt W B n K) (hb : W'.heap[B]? = W.heap[B]?) : StAt W' B n K := by
  obtain ⟨D, ⟨es, clock, h1, h2⟩, h3⟩ := h
  exact ⟨D, ⟨es, clock, hb.trans h1, h2⟩, h3⟩
theorem StAt.below {W W' : World} {B n : Nat} {K : List Int} (h : StAt W B n K) (hb : RowKit.Below W.heap.size W W') : StAt W' B n K := h.same (hb.block _ h.lt)
theorem StAt.more {W : World} {B n : Nat} {K : List Int} (h : StAt W B n K) : StAt W B (n + 1) K := by
  obtain ⟨D, ⟨es, clock, h1, h2, h4, h5⟩, h3⟩ := h
  exact ⟨D, ⟨es, clock, h1, h2, Nat.le_succ_of_le h4, h5⟩, h3⟩
theorem StAt.look {W : World} {B n : Nat} {K : List Int} (h : StAt W B n K) {x : Int} (hx : isU x) : (Instr.lookup 63 (.map (some B)) (.int .u64 x) true).run Try.prog W = .ok (.tuple #[.agg #[], .bool (decide (x ∈ K))]) W := by
  obtain ⟨D, h1, h2⟩ := h
  obtain ⟨u, ps, hr, hu⟩ := h1.look_ok alaw Try.underlying63 (szero W) (zd := .lit (.int .i64 0)) (zp := []) rfl (akey hx)
  rw [h2 x hx] at hr
  obtain rfl := Rs_inv hu
  exact hr
theorem StAt.store {W : World} {B n : Nat} {K : List Int} (h : StAt W B n K) (hn : n ≤ 100000) {x : Int} (hx : isU x) :
    ∃ W', (Instr.mapUpdate 63 (.map (some B)) (.int .u64 x) (.agg #[])).run Try.prog W = .ok () W' ∧ StAt W' B (n + 1) (K ++ [x]) ∧ Fb (at1 B) W W' := by
  obtain ⟨D, h1, h2⟩ := h
  obtain ⟨W', hr, ho, hg⟩ := h1.store alaw Try.underlying63 (by unfold maxLen; omega) (akey hx) Rs_mk
  refine ⟨W', hr, ⟨_, ho, fun u hu => ?_⟩, fb_map hg⟩
  by_cases e : u = x
  · subst e
    rw [has_put_same h1.isMap (alaw.key (akey hx))]
    simp
  · have hne : Lit.int .u64 u ≠ Lit.int .u64 x := fun e2 => e (by cases e2; rfl)
    rw [has_put_other hne, h2 u hu]
    simp [e]
set_option maxHeartbeats 8000000 in
theorem firsts_any {q : Wt} {a : Option Addr} {n cap : Nat} {l : List Cd} {w : World} (h : MsAt q w a n cap l) (hl : n ≤ 60) (hr : ∀ c ∈ l, isU c.rep) :
    Calls Try.prog 29 #[.slice a n cap] w fun e w' => ∃ v, e = .returned v ∧ Hid (OwM q w.heap.size w' v (l.foldl addC []) ∧ Below w.heap.size w w') := by
  have HW : Hid (∀ W' : World, Below w.heap.size w W' → MsAt q W' a n cap l) := fun W' hb => h.below hb
  have HL := hid h.size
  have HU := hid hr
  have hrm := h.room
  have hms := h.most
  obtain ⟨w1, hw1⟩ : ∃ w1, w1 = w.alloc (.map #[] 0) := ⟨_, rfl⟩
  have hb1 : Below w.heap.size w w1 := by rw [hw1]; exact (Below.refl _ _).alloc (Nat.le_refl _) _
  have hs1 : w1.heap.size = w.heap.size + 1 := by rw [hw1, World.size_alloc]
  have HM0 : Hid (StAt w1 w.heap.size 0 []) := by rw [hw1]; exact StAt.new w
  have HX : Hid (∀ W' : World, Below w1.heap.size w1 W' ∨ Fb (at1 w.heap.size) w1 W' → Below w.heap.size w W') := fun W' hb => by
    rcases hb with hb | hb
    · exact hb1.trans (hb.mono hb1.size)
    · exact hb1.trans (hb.to (fun x hx => by rw [hx]; exact Nat.le_refl _) hb1.size)
  clear h hr
  generalize hM : w.heap.size = M at *
  have hmk : (Instr.makeMap 63 none).run Try.prog w = .ok (.map (some M)) w1 := by rw [hw1, ← hM]; rfl
  clear hw1
  go_enter Try.func29, Try.ntmps29
  go_wp2_with fail
  clear hmk
  go_loopw [3, 12] (fun o i W' => ∃ (k : Nat) (v : Value), k ≤ n ∧ i = .int .i64 k ∧ o = v ∧ Hid (OwM q w1.heap.size W' v ((l.take k).foldl addC []) ∧ StAt W' M k (((l.take k).foldl addC []).map Cd.rep) ∧ Below M w W' ∧ w1.heap.size ≤ W'.heap.size)) (fun _ i _ => n - (intOf i).toNat)
  case atStart => exact ⟨0, _, Nat.zero_le _, rfl, rfl, OwM.nil _ _ _, HM0.out, hb1, Nat.le_refl _⟩
  case round =>
  obtain ⟨k, v, hk, rfl, hv, HR⟩ := hrel
  have hv' := hv.symm
  subst hv'
  rename World => wr
  by_cases hkn : k < n
  · have g1 : (k : Int) < (n : Int) := by omega
    obtain ⟨b0, rfl, hc⟩ := (HW.out wr HR.out.2.2.1).cell k hkn
    have hkl : k < l.length := by rw [HL.out]; exact hkn
    have hsn : l.take (k + 1) = l.take k ++ [ck l k] := by rw [List.take_add_one, ck_get hkl]; rfl
    have hfo : (l.take (k + 1)).foldl addC [] = addC ((l.take k).foldl addC []) (ck l k) := by rw [hsn, List.foldl_append]; rfl
    have hxu : isU (ck l k).rep := HU.out _ (ck_mem hkl)
    have hOl : ((l.take k).foldl addC []).length ≤ k := by
      have h1 : ∀ (m out : List Cd), (m.foldl addC out).length ≤ out.length + m.length := by
        intro m
        induction m with
        | nil => intro out; simp
        | cons c m ih =>
          intro out
          have h1 := ih (addC out c)
          have h2 := addC_len out c
          rw [List.foldl_cons, List.length_cons]
          omega
      have := h1 (l.take k) []
      have h2 := List.length_take_le k l
      simp only [List.length_nil] at this
      omega
    have HFO := hid hfo
    clear hfo hsn hkl
    generalize (l.take k).foldl addC [] = O at *
    generalize ck l k = c at *
    have e0 := hc 0 _ rfl
    have e1 := hc 1 _ rfl
    have e2 := hc 2 _ rfl
    have e3 := hc 3 _ rfl
    have e4 := hc 4 _ rfl
    have e5 := hc 5 _ rfl
    have e6 := hc 6 _ rfl
    rw [Nat.add_zero] at e0
    clear hc HW
    obtain ⟨wB, hwB⟩ : ∃ wB, wB = wr.alloc (.cells #[.int .u64 c.rep, .int .i64 c.load, .int .i64 c.known, .bool c.bnd, .int .i64 c.place, .bool c.opn, .int .i64 (markZ q c)] 51) := ⟨_, rfl⟩
    obtain ⟨wC, hwC⟩ : ∃ wC, wC = wB.alloc (.cells #[] 64) := ⟨_, rfl⟩
    have hbB : Below wr.heap.size wr wB := by rw [hwB]; exact (Below.refl _ _).alloc (Nat.le_refl _) _
    have hbC : Below wB.heap.size wB wC := by rw [hwC]; exact (Below.refl _ _).alloc (Nat.le_refl _) _
    have hbC' : Below wr.heap.size wr wC := hbB.trans (hbC.mono hbB.size)
    have hnB : wC.heap[wr.heap.size]? = some (.cells #[.int .u64 c.rep, .int .i64 c.load, .int .i64 c.known, .bool c.bnd, .int .i64 c.place, .bool c.opn, .int .i64 (markZ q c)] 51 (0, 0)) := block_bel (by rw [hwB]; exact heap_alloc_new wr _) hbC
    have lk := (HR.out.2.1.below hbB).look hxu
    have hO : OwM q w1.heap.size wC v O := own_below HR.out.1 hbC'
    have hS : StAt wC M k (O.map Cd.rep) := HR.out.2.1.below hbC'
    have hBl : Below M w wC := HR.out.2.2.1.trans (hbC'.mono (hM ▸ HR.out.2.2.1.size))
    have hz : w1.heap.size ≤ wC.heap.size := Nat.le_trans HR.out.2.2.2 hbC'.size
    have hs0 : M < wr.heap.size := HR.out.2.1.lt
    have hsB : wr.heap.size < wC.heap.size := lt_of_block hnB
    generalize hs : wr.heap.size = s at *
    obtain ⟨y0, y1, y2, y3, y4, y5⟩ := c
    simp only at *
    generalize hMk : markZ q ⟨y0, y1, y2, y3, y4, y5⟩ = mk at *
    have HMk := hid hMk
    clear hMk
    by_cases hin : y0 ∈ O.map Cd.rep
    · rw [decide_eq_true hin] at lk
      have HE : Hid (addC O ⟨y0, y1, y2, y3, y4, y5⟩ = O) := if_pos hin
      have HF : Hid (OwM q w1.heap.size wC v O ∧ StAt wC M (k + 1) (O.map Cd.rep) ∧ Below M w wC ∧ w1.heap.size ≤ wC.heap.size) := ⟨hO, hS.more, hBl, hz⟩
      rw [hwB] at lk
      rw [hwC, hwB] at HF
      clear hwC hwB hbB hbC hbC' hnB hO hS hBl hz hin
      go_wp2_with fail
      go_round
      case rel => exact ⟨k + 1, v, by omega, by go_num, rfl, by rw [HFO.out, HE.out]; exact HF.out⟩
      case measure => simp [intOf]; omega
    · rw [decide_eq_false hin] at lk
      have HE : Hid (addC O ⟨y0, y1, y2, y3, y4, y5⟩ = O ++ [⟨y0, y1, y2, y3, y4, y5⟩]) := if_neg hin
      obtain ⟨wD, es, hS2, f2⟩ := hS.store (by omega) hxu
      have hOb : ∀ b, v.ownBlock = some b → wD.heap[b]? = wC.heap[b]? := fun b hb => by
        have hlt := hO.lt b hb
        exact f2.block b hlt.2 (fun e => by have e' : b = M := e; omega)
      have hO2 : OwM q w1.heap.size wD v O := own_blk hO hOb
      have hnD : wD.heap[s]? = some (.cells #[.int .u64 y0, .int .i64 y1, .int .i64 y2, .bool y3, .int .i64 y4, .bool y5, .int .i64 mk] 51 (0, 0)) := f2.one hnB (fun e => by have e' : s = M := e; omega)
      have hBD : Below M w wD := hBl.trans (f2.to (fun x hx => by have e' : x = M := hx; omega) (by omega))
      have hzD : w1.heap.size ≤ wD.heap.size := Nat.le_trans hz f2.size
      obtain ⟨d0, d1, d2, d3, d4, d5, d6⟩ : wD.cell? ⟨s, 0, none⟩ = some (.int .u64 y0) ∧ wD.cell? ⟨s, 1, none⟩ = some (.int .i64 y1) ∧ wD.cell? ⟨s, 2, none⟩ = some (.int .i64 y2) ∧ wD.cell? ⟨s, 3, none⟩ = some (.bool y3) ∧ wD.cell? ⟨s, 4, none⟩ = some (.int .i64 y4) ∧ wD.cell? ⟨s, 5, none⟩ = some (.bool y5) ∧ wD.cell? ⟨s, 6, none⟩ = some (.int .i64 mk) := by
        refine ⟨?_, ?_, ?_, ?_, ?_, ?_, ?_⟩ <;> (rw [cell_of_row _ _ _ _ _ _ hnD]; rfl)
      obtain ⟨j0, ji, jz0, jz1, jz2⟩ := Go.info_parts Try.infoM
      have hOw : Hid ((wD.alloc (.cells #[.int .u64 y0, .int .i64 y1, .int .i64 y2, .bool y3, .int .i64 y4, .bool y5, .int .i64 mk] 51)).ownsRow w1.heap.size 51 7 v O.length (flatM q O)) := own_below hO2 ((Below.refl _ _).alloc (Nat.le_refl _) _)
      have HNw := hid (World.news_of_block (heap_alloc_new wD (.cells #[.int .u64 y0, .int .i64 y1, .int .i64 y2, .bool y3, .int .i64 y4, .bool y5, .int .i64 mk] 51)))
      have HFin : Hid (∀ (v5 : Value) (W5 : World), W5.ownsRow w1.heap.size 51 7 v5 (O.length + 1) (flatM q O ++ [.int .u64 y0, .int .i64 y1, .int .i64 y2, .bool y3, .int .i64 y4, .bool y5, .int .i64 mk]) → (wD.alloc (.cells #[.int .u64 y0, .int .i64 y1, .int .i64 y2, .bool y3, .int .i64 y4, .bool y5, .int .i64 mk] 51)).grownBy W5 v.ownBlock → OwM q w1.heap.size W5 v5 (O ++ [⟨y0, y1, y2, y3, y4, y5⟩]) ∧ StAt W5 M (k + 1) ((O ++ [(⟨y0, y1, y2, y3, y4, y5⟩ : Cd)]).map Cd.rep) ∧ Below M w W5 ∧ w1.heap.size ≤ W5.heap.size) := fun v5 W5 q1 q2 => by
        have hbx : Below wD.heap.size wD (wD.alloc (.cells #[.int .u64 y0, .int .i64 y1, .int .i64 y2, .bool y3, .int .i64 y4, .bool y5, .int .i64 mk] 51)) := (Below.refl _ _).alloc (Nat.le_refl _) _
        have hMM : M ≠ v.ownBlock.getD (M + 1) := by
          cases hv9 : v.ownBlock with
          | none => simp
          | some b =>
            have := (hO.lt b hv9).1
            simp
            omega
        refine ⟨?_, ?_, ?_, Nat.le_trans hzD (Nat.le_trans hbx.size q2.size)⟩
        · unfold OwM
          rw [List.length_append, flatM_app]
          have : flatM q [⟨y0, y1, y2, y3, y4, y5⟩] = [.int .u64 y0, .int .i64 y1, .int .i64 y2, .bool y3, .int .i64 y4, .bool y5, .int .i64 mk] := by unfold flatM flatM; rw [HMk.out]
          rw [this]
          exact q1
        · rw [List.map_append]
          have h7 := hS2.below hbx
          refine h7.same (q2.block M h7.lt fun e => ?_)
          rw [← e] at hMM
          simp at hMM
        · exact (hBD.trans (hbx.mono (by omega))).grown q2 (by have := hbx.size; omega) fun b hb => by have := (hO.lt b hb).1; omega
      rw [hwB] at lk
      rw [hwC, hwB] at es
      have HO1 : Hid (∃ ao co, v = .slice ao O.length co) := own_sl19 hO
      obtain ⟨ao, co, hv2⟩ := HO1.out
      subst hv2
      clear hwC hwB hbB hbC hbC' hnB hO hS hBl hz hin hO2 hnD hBD hS2 f2 hOb HR HO1 hb1 HM0 HX hsB
      have hz6 : O.length ≤ 59 := by omega
      have HOL := hid hOl
      clear hOl
      go_wp2_with (at_builtin; refine wpList_append_own _ rfl (.tmp 31) (.tmp 33) 48 rfl w1.heap.size 51 j0 (.agg #[.int .u64 0, .int .i64 0, .int .i64 0, .bool false, .int .i64 0, .bool false, .int .i64 0]) 7 56 Try.underlying48 ji jz0 jz1 jz2 rfl (by decide) (.slice ao O.length co) O.length _ rfl hOw.out ⟨wD.heap.size, 0, none⟩ 1 1 [.int .u64 y0, .int .i64 y1, .int .i64 y2, .bool y3, .int .i64 y4, .bool y5, .int .i64 mk] rfl rfl HNw.out (by simp [Value.oneCell']) (by unfold maxLen; omega) (by omega) (by simp; omega) ?_; intro v5 w5 how5 hgr5 _)
      have HF2 := hid (HFin.out _ _ how5 hgr5)
      clear how5 hgr5 HFin hOw e0 e1 e2 e3 e4 e5 e6 HNw d0 d1 d2 d3 d4 d5 d6
      go_wp2_with fail
      go_round
      case rel => exact ⟨k + 1, v5, by omega, by go_num, rfl, by rw [HFO.out, HE.out]; exact HF2.out⟩
      case measure => simp [intOf]; omega
  · have g1 : ¬ (k : Int) < (n : Int) := by omega
    obtain rfl : k = n := by omega
    have htk : l.take k = l := List.take_of_length_le (by rw [HL.out]; exact Nat.le_refl _)
    rw [htk] at HR
    have HF : Hid (OwM q M wr v (l.foldl addC []) ∧ Below M w wr) := ⟨own_low HR.out.1 (by omega), HR.out.2.2.1⟩
    clear HR htk HW HM0 HX
    go_wp2_with fail
    go_ret
    exact ⟨_, rfl, HF.out⟩
end Go.Proofs.Ytmhpgkkaolcncaa
