/-
  The document's list: Remove.
-/
import Derived.Test.YtlhhkgjolilpiaaMbRi
namespace Go.Proofs.Ytlhhkgjolilpiaa
open Go.RowKit Go.Maps
set_option linter.unusedVariables false
set_option maxRecDepth 1000000
variable {B : Nat} {W W' w w' : World} {d i g n cap : Nat} {v v' : Value} {S S' : Ml} {r r' : Mr} {x t s z : Int}

theorem cutM_to (g n cap m : Nat) (hm : m ≤ cap) (W : World) :
    (Instr.sliceAt 26 (.slice (some ⟨g, 0, none⟩) n cap) none (some (.int .i64 (m : Int))) none).run Try.prog W = .ok (.slice (some ⟨g, 0, none⟩) m cap) W := by
  obtain ⟨j0, ji, jz0, jz1, jz2⟩ := info_parts Try.infoRr
  have h1 : (Instr.sliceBound (.int .i64 (m : Int)) cap .sliceAcap).run Try.prog W = .ok m W := by
    rw [run_sliceBound W .i64 (m : Int) cap _ (by omega) (by omega)]; simp
  simp [Instr.sliceAt, Instr.slice, run_underlying Try.undRr, Instr.sliceBounds, h1, sizeOf, typeInfo, ji, Addr.add]
theorem cutM_from (g n cap m : Nat) (hm : m + 1 ≤ n) (hc : n ≤ cap) : ∃ A : Addr, (∀ W : World,
    (Instr.sliceAt 26 (.slice (some ⟨g, 0, none⟩) n cap) (some (.int .i64 ((m : Int) + 1))) none none).run Try.prog W = .ok (.slice (some A) (n - (m + 1)) (cap - (m + 1))) W) ∧ (m + 1 < n → A = ⟨g, (m + 1) * 5, none⟩) := by
  obtain ⟨j0, ji, jz0, jz1, jz2⟩ := info_parts Try.infoRr
  have h1 : ∀ W : World, (Instr.sliceBound (.int .i64 ((m : Int) + 1)) n .sliceB).run Try.prog W = .ok (m + 1) W := fun W => by
    rw [run_sliceBound W .i64 ((m : Int) + 1) n _ (by omega) (by omega)]; congr 1
  refine ⟨if cap - (m + 1) = 0 then ⟨g, 0, none⟩ else ⟨g, (m + 1) * 5, none⟩, fun W => ?_, fun h => by rw [if_neg (by omega)]⟩
  simp [Instr.sliceAt, Instr.slice, run_underlying Try.undRr, Instr.sliceBounds, h1, sizeOf, typeInfo, ji, jz1, Addr.add]
  split <;> simp_all <;> omega
theorem erase_rm {L : List Mr} (hn : (L.map Mr.n).Nodup) {k : Nat} (hk : k < L.length) : L.take k ++ L.drop (k + 1) = rmL L (atM L k).n := by
  rw [← List.eraseIdx_eq_take_drop_succ]
  induction L generalizing k with
  | nil => simp at hk
  | cons b L ih =>
    rw [List.map_cons, List.nodup_cons] at hn
    cases k with
    | zero =>
      have e : atM (b :: L) 0 = b := rfl
      rw [e]
      show L = rmL (b :: L) b.n
      unfold rmL
      rw [List.filter_cons_of_neg (by simp)]
      refine (List.filter_eq_self.2 fun y hy => ?_).symm
      simp only [decide_eq_true_eq]
      exact fun e => hn.1 (List.mem_map.2 ⟨y, hy, e⟩)
    | succ k =>
      have hk' : k < L.length := by simpa using hk
      have e : atM (b :: L) (k + 1) = atM L k := rfl
      have e1 : ¬ b.n = (atM L k).n := fun e => hn.1 (List.mem_map.2 ⟨atM L k, mk_mem hk', e.symm⟩)
      have := ih hn.2 hk'
      rw [e]
      show b :: L.eraseIdx k = rmL (b :: L) (atM L k).n
      unfold rmL at this ⊢
      rw [List.filter_cons_of_pos (by simpa using e1), this]
set_option maxHeartbeats 16000000 in
theorem rremove_any (h : RmAt B w d v S) (ok : MlOk S) (t x wt : Int) : Calls Try.prog 15 #[.pointer (some ⟨d, 0, none⟩), .int .i64 t, .int .u64 x, .int .i64 wt] w fun e w' => e = .returned (.int .i64 ((S.tm t).rmE x wt)) ∧ Hid (∃ v', RmO B w d v ((S.tm t).rmS x wt) v' w') := by
  obtain ⟨j0, ji, jz0, jz1, jz2⟩ := info_parts Try.infoRr
  have hL := rlater_any h t
  have ok1 := ok.tm t
  clear h ok
  generalize S.tm t = S1 at *
  have HP := hid fun (w1 : World) (h1 : RmAt B w1 d v S1) => rplace_any h1 ok1.ris ok1.len x
  have HOk := hid ok1
  clear ok1
  go_enter Try.func15, Try.ntmps15
  go_wp2_with fail
  refine hL.mono ?_
  rintro e w1 ⟨rfl, H1⟩
  have hP := HP.out _ H1.out.at'
  clear hL HP
  go_wp2_with fail
  refine hP.mono ?_
  rintro e w2 ⟨pz, rfl, HPz, rfl⟩
  clear hP
  rcases HPz.out with ⟨i, rfl, hi, hg⟩ | ⟨rfl, hg⟩
  · obtain ⟨e1, e2⟩ := get_rm (wt := wt) hg
    obtain ⟨g, n, cap, rfl, hR, hcap, hmax, hn8, hin⟩ := Rd.of H1.out.at' HOk.out hi
    rw [stays_any] at e1 e2
    have hrk := HOk.out.rep _ (mk_mem hi)
    have hsi := hrk.si
    have hnw := HOk.out.now
    have hN := hR.len
    have v1 : wrap64 (S1.now - (atM S1.L i).si) = S1.now - (atM S1.L i).si := by unfold wrap64; omega
    have v2 : IntKind.i64.wrap (S1.now - (atM S1.L i).si) = S1.now - (atM S1.L i).si := by rw [IntKind.wrap_i64]; omega
    have hxn : (atM S1.L i).n = x := (get_num hg).2
    have HEr : Hid (S1.L.take i ++ S1.L.drop (i + 1) = rmL S1.L x) := by unfold Hid; rw [← hxn]; exact erase_rm HOk.out.ris.nodup hi
    obtain ⟨a0, a1, a2, a3, a4⟩ := hR.cs
    have k2 := hR.box.row
    have q1 : (i : Int) < (n : Int) := by omega
    have q2 : ¬ (i : Int) < 0 := by omega
    have HF : Hid (∀ W : World, Below w2.heap.size w2 W → ∃ v', RmO B w d (.slice (some ⟨g, 0, none⟩) n cap) S1 v' W) := fun W hb => ⟨_, H1.out.trans ⟨H1.out.at'.below hb, Fb.of hb, fun k hk => .inl hk⟩⟩
    have HTx : Hid (∀ (W W' : World) (q' : Ml) (v' : Value), Below w2.heap.size w2 W → RmO B W d (.slice (some ⟨g, 0, none⟩) n cap) q' v' W' → ∃ v', RmO B w d (.slice (some ⟨g, 0, none⟩) n cap) q' v' W') := fun W W' q' v' hb ho => ⟨v', (H1.out.trans ⟨H1.out.at'.below hb, Fb.of hb, fun k hk => .inl hk⟩).trans ho⟩
    have HA := hid H1.out.at'
    obtain ⟨w3, hw3⟩ : ∃ w3, w3 = w2.alloc (.cells (MrC (atM S1.L i)) 67) := ⟨_, rfl⟩
    have hb3 : Below w2.heap.size w2 w3 := by rw [hw3]; exact (Below.refl _ _).alloc (Nat.le_refl _) _
    have hx3 : w3.heap[w2.heap.size]? = some (.cells (MrC (atM S1.L i)) 67 (0, 0)) := by rw [hw3]; exact heap_alloc_new w2 _
    obtain ⟨xb, hxb⟩ : ∃ xb, w2.heap.size = xb := ⟨_, rfl⟩
    have HXb := hid hxb
    rw [hxb] at hx3
    have x1 := fun k : Nat => (mr_cs (W := w3.drewN k) hx3).st
    have x3 := fun k : Nat => (mr_cs (W := w3.drewN k) hx3).bd
    have x4 := fun k : Nat => (mr_cs (W := w3.drewN k) hx3).si
    have x0 := fun k : Nat => ((HA.out.below hb3).drewN k).cs.now
    have HB3 : Hid (∀ k, Below w2.heap.size w2 (w3.drewN k)) := fun k => ⟨hb3.os, hb3.tape, hb3.output, hb3.size, hb3.block⟩
    unfold MrC at hw3
    have HE := hid e1
    have HS := hid e2
    have HNn := hid hN
    clear HPz hi hg e1 e2 hR H1 hrk hsi hnw hxn hb3 hx3 HOk hN hxb
    generalize hr : atM S1.L i = r at *
    clear hr
    obtain ⟨rn, rst, ri, rb, rs⟩ := r
    simp only at a0 a1 a2 a3 a4 x1 x3 x4 v1 v2 hw3 HE HS
    generalize hsn : S1.now = sn at x0 v1 v2 HE HS
    have HSn := hid hsn
    clear hsn
    by_cases h3 : rst = 3
    · rw [decide_eq_false (fun e => e h3 : ¬ rst ≠ 3), Bool.false_or] at HE HS
      rw [h3] at a1 x1 hw3
      clear h3
      by_cases h4 : 0 < rb
      · have d1 : decide (0 < rb) = true := decide_eq_true h4
        rw [d1, Bool.true_and] at HE HS
        by_cases h5 : sn - rs < wt
        · have d2 : decide (sn - rs < wt) = true := decide_eq_true h5
          rw [d2, if_pos rfl] at HE HS
          clear h4 h5 HTx
          go_wp2_with fail
          rw [← hw3]
          (try rw [HXb.out])
          clear hw3 a0 a1 a2 a3 a4 k2
          go_quiet (fail)
          go_wp2_with fail
          go_ret
          exact ⟨by rw [HE.out]; rfl, by rw [HS.out]; exact HF.out _ (HB3.out _)⟩
        · have d2 : decide (sn - rs < wt) = false := decide_eq_false h5
          rw [d2, if_neg (by decide)] at HE HS
          clear h4 h5 HF
          go_wp2_with fail
          rw [← hw3]
          (try rw [HXb.out])
          clear hw3 a0 a1 a2 a3 a4 k2
          go_quiet (fail)
          go_wp2_with fail
          have HW := hid (HB3.out nq)
          clear x0 x1 x3 x4 HB3 v1 v2 d1 d2 HXb
          generalize w3.drewN nq = w6 at *
          have HR6 := hid (HA.out.below HW.out)
          have HTy : Hid (∀ (W' : World) (q' : Ml) (v' : Value), RmO B w6 d (.slice (some ⟨g, 0, none⟩) n cap) q' v' W' → ∃ v', RmO B w d (.slice (some ⟨g, 0, none⟩) n cap) q' v' W') := fun W' q' v' ho => HTx.out _ W' q' v' HW.out ho
          have HNw := hid fun (W : World) (hb : Below w6.heap.size w6 W) => (HR6.out.below hb).row.news
          have HK := hid fun (W : World) (hb : Below w6.heap.size w6 W) => And.intro (HR6.out.below hb).cs.row ((HR6.out.below hb).fz 2)
          have HL1 : Hid ((flatM (S1.L.take i)).length = i * 5) := by unfold Hid; rw [flatM_len, List.length_take, HNn.out]; congr 1; omega
          have HL2 : Hid ((flatM (S1.L.drop (i + 1))).length = (n - (i + 1)) * 5) := by unfold Hid; rw [flatM_len, List.length_drop, HNn.out]
          have HFin : Hid (∀ (v8 : Value) (W8 : World), W8.ownsRow w6.heap.size 67 5 v8 (0 + i + (n - (i + 1))) ([] ++ flatM (S1.L.take i) ++ flatM (S1.L.drop (i + 1))) → Below w6.heap.size w6 W8 → ∃ v', RmO B w d (.slice (some ⟨g, 0, none⟩) n cap) (S1.rm x) v' (W8.setCell ⟨d, 2, none⟩ v8)) := by
            intro v8 W8 hO8 hb8
            have e8 : (rmL S1.L x).length = 0 + i + (n - (i + 1)) := by rw [← HEr.out, List.length_append, List.length_take, List.length_drop, HNn.out]; omega
            rw [List.nil_append, ← flatM_app, HEr.out, ← e8] at hO8
            exact HTy.out _ _ _ (HR6.out.list (S' := S1.rm x) hb8 hO8 (Nat.le_refl _) rfl rfl)
          have HN1 : Hid (∀ W : World, Below w6.heap.size w6 W → ∀ b, some (⟨g, 0, none⟩ : Addr) = some b → ∀ j u, (flatM (S1.L.take i))[j]? = some u → W.cell? (b.add j) = some u) := fun W hb b hbe j u hu => by
            rw [flatM_take, List.getElem?_take] at hu
            split at hu
            · exact HNw.out W hb b hbe j u hu
            · cases hu
          have hw1 : IntKind.i64.wrap ((i : Int) + 1) = (i : Int) + 1 := wrap64_in (by omega) (by omega)
          have hs1 := fun W : World => cutM_to g n cap i (by omega) W
          obtain ⟨A, hs2, hA⟩ := cutM_from g n cap i (by omega) (by omega)
          have HN2 : Hid (∀ W : World, Below w6.heap.size w6 W → ∀ b, some A = some b → ∀ j u, (flatM (S1.L.drop (i + 1)))[j]? = some u → W.cell? (b.add j) = some u) := fun W hb b hbe j u hu => by
            cases hbe
            have hj : j < (flatM (S1.L.drop (i + 1))).length := by
              rcases Nat.lt_or_ge j (flatM (S1.L.drop (i + 1))).length with h | h
              · exact h
              · rw [List.getElem?_eq_none h] at hu; cases hu
            rw [HL2.out] at hj
            rw [hA (by omega)]
            rw [flatM_drop, List.getElem?_drop] at hu
            have := HNw.out W hb _ rfl _ u hu
            rw [Addr.add_lit, Nat.zero_add] at this
            rw [Addr.add_lit]
            exact this
          clear hA
          have HO1 := hid (flatM_one (S1.L.take i))
          have HO2 := hid (flatM_one (S1.L.drop (i + 1)))
          have l3 : w6.cell? ⟨d, 2, none⟩ = some (.slice (some ⟨g, 0, none⟩) n cap) := (HK.out _ (Below.refl _ _)).1
          have HV6 : Hid (Below w6.heap.size w6 w6.drew) := (Below.refl _ _).drew
          clear HTx HTy HR6 HW HA HNw
          go_region_law
            (first
              | (refine step_appendM (by rfl) 52 (by rfl) (.const (.slice none 0 0)) (.tmp 51) 26 (by rfl) w6.heap.size 67 j0 (.agg #[.int .u64 0, .int .i64 0, .int .u64 0, .int .i64 0, .int .i64 0]) 5 40 Try.undRr ji jz0 jz1 jz2 rfl (by decide) (by decide) _ 0 [] (by rfl) (World.ownsRow_nil _ _ _ _) (some ⟨g, 0, none⟩) i cap (flatM (S1.L.take i)) (by rfl) (fun e => by cases e) HL1.out (HN1.out _ HV6.out) HO1.out (by omega) HV6.out.size ?_; intro v7 w7 hO7 hb7; have HW7 := hid (HV6.out.trans hb7); have HO7 := hid hO7; have m3 := (HK.out _ HW7.out).1; clear hO7 hb7)
              | (refine step_appendM (by rfl) 60 (by rfl) (.tmp 52) (.tmp 59) 26 (by rfl) w6.heap.size 67 j0 (.agg #[.int .u64 0, .int .i64 0, .int .u64 0, .int .i64 0, .int .i64 0]) 5 40 Try.undRr ji jz0 jz1 jz2 rfl (by decide) (by decide) v7 (0 + i) ([] ++ flatM (S1.L.take i)) (by rfl) HO7.out (some A) (n - (i + 1)) (cap - (i + 1)) (flatM (S1.L.drop (i + 1))) (by rfl) (fun e => by cases e) HL2.out (HN2.out _ HW7.out) HO2.out (by omega) HW7.out.size ?_; intro v8 w8 hO8 hb8; obtain ⟨a8, e8, rfl⟩ := own_slM hO8; have HW8 := hid (HW7.out.trans hb8); have s3 := (HK.out _ HW8.out).1; have s4 := (HK.out _ HW8.out).2; have HP8 := hid (HFin.out _ _ hO8 HW8.out); clear hO8 hb8)
              | fail)
          all_goals
            rw [Nat.zero_add] at HP8
            clear HFin HN1 HN2 HL1 HL2 HO1 HO2 HK l3 HV6 hs1 hs2 m3 s3 s4 HW7 HW8 HO7
          all_goals
            go_wp2_with fail
            go_ret
            exact ⟨by rw [HE.out]; rfl, by rw [HS.out]; exact HP8⟩
      · have d1 : decide (0 < rb) = false := decide_eq_false h4
        rw [d1, Bool.false_and, if_neg (by decide)] at HE HS
        clear h4 HF
        go_wp2_with fail
        rw [← hw3]
        (try rw [HXb.out])
        clear hw3 a0 a1 a2 a3 a4 k2
        go_quiet (fail)
        go_wp2_with fail
        have HW := hid (HB3.out nq)
        clear x0 x1 x3 x4 HB3 v1 v2 d1 HXb
        generalize w3.drewN nq = w6 at *
        have HR6 := hid (HA.out.below HW.out)
        have HTy : Hid (∀ (W' : World) (q' : Ml) (v' : Value), RmO B w6 d (.slice (some ⟨g, 0, none⟩) n cap) q' v' W' → ∃ v', RmO B w d (.slice (some ⟨g, 0, none⟩) n cap) q' v' W') := fun W' q' v' ho => HTx.out _ W' q' v' HW.out ho
        have HNw := hid fun (W : World) (hb : Below w6.heap.size w6 W) => (HR6.out.below hb).row.news
        have HK := hid fun (W : World) (hb : Below w6.heap.size w6 W) => And.intro (HR6.out.below hb).cs.row ((HR6.out.below hb).fz 2)
        have HL1 : Hid ((flatM (S1.L.take i)).length = i * 5) := by unfold Hid; rw [flatM_len, List.length_take, HNn.out]; congr 1; omega
        have HL2 : Hid ((flatM (S1.L.drop (i + 1))).length = (n - (i + 1)) * 5) := by unfold Hid; rw [flatM_len, List.length_drop, HNn.out]
        have HFin : Hid (∀ (v8 : Value) (W8 : World), W8.ownsRow w6.heap.size 67 5 v8 (0 + i + (n - (i + 1))) ([] ++ flatM (S1.L.take i) ++ flatM (S1.L.drop (i + 1))) → Below w6.heap.size w6 W8 → ∃ v', RmO B w d (.slice (some ⟨g, 0, none⟩) n cap) (S1.rm x) v' (W8.setCell ⟨d, 2, none⟩ v8)) := by
          intro v8 W8 hO8 hb8
          have e8 : (rmL S1.L x).length = 0 + i + (n - (i + 1)) := by rw [← HEr.out, List.length_append, List.length_take, List.length_drop, HNn.out]; omega
          rw [List.nil_append, ← flatM_app, HEr.out, ← e8] at hO8
          exact HTy.out _ _ _ (HR6.out.list (S' := S1.rm x) hb8 hO8 (Nat.le_refl _) rfl rfl)
        have HN1 : Hid (∀ W : World, Below w6.heap.size w6 W → ∀ b, some (⟨g, 0, none⟩ : Addr) = some b → ∀ j u, (flatM (S1.L.take i))[j]? = some u → W.cell? (b.add j) = some u) := fun W hb b hbe j u hu => by
          rw [flatM_take, List.getElem?_take] at hu
          split at hu
          · exact HNw.out W hb b hbe j u hu
          · cases hu
        have hw1 : IntKind.i64.wrap ((i : Int) + 1) = (i : Int) + 1 := wrap64_in (by omega) (by omega)
        have hs1 := fun W : World => cutM_to g n cap i (by omega) W
        obtain ⟨A, hs2, hA⟩ := cutM_from g n cap i (by omega) (by omega)
        have HN2 : Hid (∀ W : World, Below w6.heap.size w6 W → ∀ b, some A = some b → ∀ j u, (flatM (S1.L.drop (i + 1)))[j]? = some u → W.cell? (b.add j) = some u) := fun W hb b hbe j u hu => by
          cases hbe
          have hj : j < (flatM (S1.L.drop (i + 1))).length := by
            rcases Nat.lt_or_ge j (flatM (S1.L.drop (i + 1))).length with h | h
            · exact h
            · rw [List.getElem?_eq_none h] at hu; cases hu
          rw [HL2.out] at hj
          rw [hA (by omega)]
          rw [flatM_drop, List.getElem?_drop] at hu
          have := HNw.out W hb _ rfl _ u hu
          rw [Addr.add_lit, Nat.zero_add] at this
          rw [Addr.add_lit]
          exact this
        clear hA
        have HO1 := hid (flatM_one (S1.L.take i))
        have HO2 := hid (flatM_one (S1.L.drop (i + 1)))
        have l3 : w6.cell? ⟨d, 2, none⟩ = some (.slice (some ⟨g, 0, none⟩) n cap) := (HK.out _ (Below.refl _ _)).1
        have HV6 : Hid (Below w6.heap.size w6 w6.drew) := (Below.refl _ _).drew
        clear HTx HTy HR6 HW HA HNw
        go_region_law
          (first
            | (refine step_appendM (by rfl) 52 (by rfl) (.const (.slice none 0 0)) (.tmp 51) 26 (by rfl) w6.heap.size 67 j0 (.agg #[.int .u64 0, .int .i64 0, .int .u64 0, .int .i64 0, .int .i64 0]) 5 40 Try.undRr ji jz0 jz1 jz2 rfl (by decide) (by decide) _ 0 [] (by rfl) (World.ownsRow_nil _ _ _ _) (some ⟨g, 0, none⟩) i cap (flatM (S1.L.take i)) (by rfl) (fun e => by cases e) HL1.out (HN1.out _ HV6.out) HO1.out (by omega) HV6.out.size ?_; intro v7 w7 hO7 hb7; have HW7 := hid (HV6.out.trans hb7); have HO7 := hid hO7; have m3 := (HK.out _ HW7.out).1; clear hO7 hb7)
            | (refine step_appendM (by rfl) 60 (by rfl) (.tmp 52) (.tmp 59) 26 (by rfl) w6.heap.size 67 j0 (.agg #[.int .u64 0, .int .i64 0, .int .u64 0, .int .i64 0, .int .i64 0]) 5 40 Try.undRr ji jz0 jz1 jz2 rfl (by decide) (by decide) v7 (0 + i) ([] ++ flatM (S1.L.take i)) (by rfl) HO7.out (some A) (n - (i + 1)) (cap - (i + 1)) (flatM (S1.L.drop (i + 1))) (by rfl) (fun e => by cases e) HL2.out (HN2.out _ HW7.out) HO2.out (by omega) HW7.out.size ?_; intro v8 w8 hO8 hb8; obtain ⟨a8, e8, rfl⟩ := own_slM hO8; have HW8 := hid (HW7.out.trans hb8); have s3 := (HK.out _ HW8.out).1; have s4 := (HK.out _ HW8.out).2; have HP8 := hid (HFin.out _ _ hO8 HW8.out); clear hO8 hb8)
            | fail)
        all_goals
          rw [Nat.zero_add] at HP8
          clear HFin HN1 HN2 HL1 HL2 HO1 HO2 HK l3 HV6 hs1 hs2 m3 s3 s4 HW7 HW8 HO7
        all_goals
          go_wp2_with fail
          go_ret
          exact ⟨by rw [HE.out]; rfl, by rw [HS.out]; exact HP8⟩
    · rw [decide_eq_true h3, Bool.true_or, if_pos rfl] at HE HS
      have d1 : (rst == 3) = false := by simp [h3]
      have d2 : (rst != 3) = true := by simp [h3]
      have d3 : decide (rst = 3) = false := decide_eq_false h3
      clear h3 HTx
      go_wp2_with fail
      rw [← hw3]
      (try rw [HXb.out])
      clear hw3 a0 a1 a2 a3 a4 k2
      go_quiet (fail)
      go_wp2_with fail
      go_ret
      exact ⟨by rw [HE.out]; rfl, by rw [HS.out]; exact HF.out _ (HB3.out _)⟩
  · obtain ⟨_, _, _, _, _, e1, e2, _⟩ := get_none (i := 0) (v := 0) (wt := wt) (s := 0) hg
    have HE := hid e1
    have HS := hid e2
    have HF : Hid (∃ v', RmO B w d v S1 v' w2) := ⟨_, H1.out⟩
    clear HPz hg e1 e2 HOk H1
    go_wp2
    go_ret
    exact ⟨by rw [HE.out]; rfl, by rw [HS.out]; exact HF⟩
end Go.Proofs.Ytlhhkgjolilpiaa
