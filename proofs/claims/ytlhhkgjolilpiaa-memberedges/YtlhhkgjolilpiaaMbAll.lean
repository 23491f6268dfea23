/-
  Package member: All.
-/
import Derived.Test.YtlhhkgjolilpiaaMbRow
namespace Go.Proofs.Ytlhhkgjolilpiaa
open Go.RowKit Go.Maps
set_option linter.unusedVariables false
set_option maxRecDepth 1000000
variable {W W' w w' : World} {b M g : Nat} {f : Int → Nat} {S S' : Ml} {r q r' : Mr} {n t v wt s i : Int}

theorem take_mk {L : List Mr} {k : Nat} (h : k < L.length) : L.take (k + 1) = L.take k ++ [atM L k] := by
  rw [List.take_add_one, mk_at h, List.getElem?_eq_getElem h]
  rfl
set_option maxHeartbeats 8000000 in
theorem mall_any (h : MlAt w b M f S) (ok : MlOk S) : Calls Try.prog 21 #[.pointer (some ⟨b, 0, none⟩)] w fun e w' => ∃ a cap, e = .returned (.slice a S.L.length cap) ∧ Hid (RwM 55 w' w.heap.size (.slice a S.L.length cap) S.L ∧ Below w.heap.size w w') := by
  obtain ⟨j0, ji, jz0, jz1, jz2⟩ := info_parts Try.infoMr
  have hM := mmade_yes h
  have c2 := h.cs.map
  have hlen := ok.len
  obtain ⟨W1, hW1⟩ : ∃ W1, W1 = w.alloc (.cells #[.map (some M)] 59) := ⟨_, rfl⟩
  have hb1 : Below w.heap.size w W1 := by rw [hW1]; exact (Below.refl _ _).alloc (Nat.le_refl _) _
  have hS : Calls Try.prog 38 #[.func (.func 42) #[] #[.pointer (some ⟨w.heap.size, 0, none⟩)]] W1 fun e W' => ∃ u : Value, e = .returned u ∧ Hid (W'.ownsRow W1.heap.size 25 1 u S.L.length ((S.L.map Mr.n).map (Value.int .u64)) ∧ Below W1.heap.size W1 W') := by
    have := usorted w.heap.size M (S.L.map Mr.n) (by rw [List.length_map]; omega) W1 (by rw [hW1]; simp) (by rw [hW1, cell_of_row _ _ _ _ _ _ (heap_alloc_new w _)]; rfl) (by have := (h.below hb1).map.keys; rw [ents_n] at this; exact this)
    rw [List.length_map, risL_ris ok.ris] at this
    exact this
  have HH := hid fun (W : World) (hb : Below w.heap.size w W) => h.below hb
  have HG : Hid (∀ k, k < S.L.length → S.get (atM S.L k).n = some (atM S.L k) ∧ atM S.L k ∈ S.L ∧ isU (atM S.L k).n) := fun k hk => by
    have hm := mk_mem hk
    have hn := (ok.rep _ hm).n
    have hl := ok.last
    exact ⟨gtL_mem ok.ris hm, hm, ⟨by omega, by omega⟩⟩
  have HB1 := hid hb1
  clear h ok hb1
  obtain ⟨nl, hnl⟩ : ∃ nl, S.L.length = nl := ⟨_, rfl⟩
  have HNl := hid hnl
  rw [hnl] at hS hlen HG ⊢
  obtain ⟨q0, hq0⟩ : ∃ q0, w.heap.size = q0 := ⟨_, rfl⟩
  have HQ0 := hid hq0
  rw [hq0] at hS
  clear hnl hq0
  go_enter Try.func21, Try.ntmps21
  go_wp2_with fail
  refine hM.mono ?_
  rintro e w' ⟨rfl, rfl⟩
  clear hM
  go_wp2_with (first | (go_at_call 38; (try rw [← hW1]); (try rw [HQ0.out]); refine hS.mono ?_; rintro r w2 ⟨u, rfl, H2⟩; obtain ⟨au, cu, rfl⟩ := own_slM H2.out.1) | go_in)
  clear hS hW1 c2
  have HB2 : Hid (Below w'.heap.size w' w2) := HB1.out.trans (H2.out.2.mono HB1.out.size)
  have HC : Hid (∀ W : World, Below w2.heap.size w2 W → ∀ k, k < nl → ∃ g, au = some ⟨g, 0, none⟩ ∧ W.cell? ⟨g, k, none⟩ = some (.int .u64 (atM S.L k).n)) := fun W hb k hk => by
    have ho := own_below H2.out.1 hb
    rcases id ho.2 with ⟨_, h0⟩ | ⟨g, cap, cur, hv, _⟩
    · omega
    · have e : au = some ⟨g, 0, none⟩ := by cases hv; rfl
      subst e
      refine ⟨g, rfl, ?_⟩
      rw [World.ownsRow.cellAt ho k (by omega), List.getElem?_map, List.getElem?_map]
      have hk2 : k < S.L.length := by rw [HNl.out]; exact hk
      rw [mk_at hk2, List.getElem?_eq_getElem hk2]
      rfl
  have hcu : nl ≤ cu ∧ cu ≤ 9223372036854775807 := by
    rcases id H2.out.1.2 with ⟨hv, h0⟩ | ⟨g, cap, cur, hv, _, hg, hnc, hm, _⟩
    · cases hv; omega
    · cases hv; exact ⟨hnc, by unfold maxLen at hm; omega⟩
  clear H2 HB1
  go_loopw [3, 16] (fun o i W => ∃ (k : Nat) (ao : Option Addr) (co : Nat), k ≤ nl ∧ i = .int .i64 k ∧ o = .slice ao k co ∧ Hid (W.ownsRow w2.heap.size 55 5 (.slice ao k co) k (flatM (S.L.take k)) ∧ Below w2.heap.size w2 W)) (fun _ i _ => nl - (intOf i).toNat)
  case atStart => exact ⟨0, none, 0, Nat.zero_le _, rfl, rfl, World.ownsRow_nil _ _ _ _, Below.refl _ _⟩
  case round =>
  obtain ⟨k, ao, co, hk, rfl, rfl, HO⟩ := hrel
  rename World => wr
  by_cases hlt : k < nl
  · have q1 : (k : Int) < (nl : Int) := by omega
    obtain ⟨gu, rfl, cu1⟩ := HC.out wr HO.out.2 k hlt
    have hA := HH.out wr (HB2.out.trans (HO.out.2.mono HB2.out.size))
    obtain ⟨hg1, hg2, hg3⟩ := HG.out k hlt
    have c2 := hA.cs.map
    have hlk := hA.look1 hg3
    rw [hg1] at hlk
    simp only [Option.map_some, ptrP] at hlk
    obtain ⟨m0, m1, m2, m3, m4⟩ := hA.rc hg2
    have HFin : Hid (∀ (v4 : Value) (w4 : World), w4.ownsRow w2.heap.size 55 5 v4 (k + 1) (flatM (S.L.take k) ++ [.int .u64 (atM S.L k).n, .int .i64 (atM S.L k).st, .int .u64 (atM S.L k).inc, .int .i64 (atM S.L k).bd, .int .i64 (atM S.L k).si]) → Below w2.heap.size w2 w4 → ∃ a4 c4, v4 = .slice a4 (k + 1) c4 ∧ Hid (w4.ownsRow w2.heap.size 55 5 (.slice a4 (k + 1) c4) (k + 1) (flatM (S.L.take (k + 1))) ∧ Below w2.heap.size w2 w4)) := fun v4 w4 ho hb => by
      obtain ⟨a4, c4, rfl⟩ := own_slM ho
      refine ⟨a4, c4, rfl, ?_, hb⟩
      rw [take_mk (by rw [HNl.out]; exact hlt), flatM_app]
      exact ho
    have how := HO.out.1
    have HBa : Hid (∀ o : Obj, Below w2.heap.size w2 (wr.alloc o)) := fun o => HO.out.2.alloc HO.out.2.size o
    clear hA hg1 hg2 hg3 HO
    generalize atM S.L k = y at *
    generalize f y.n = g at *
    obtain ⟨yn, ys, yi, yb, yt⟩ := y
    simp only at cu1 hlk m0 m1 m2 m3 m4 HFin
    go_wp2_with (at_builtin; refine wpList_append_own _ rfl (.tmp 20) (.tmp 29) 48 rfl w2.heap.size 55 j0 (.agg #[.int .u64 0, .int .i64 0, .int .u64 0, .int .i64 0, .int .i64 0]) 5 40 Try.undMr ji jz0 jz1 jz2 rfl (by decide) (.slice ao k co) k (flatM (S.L.take k)) rfl (how.alloc _) ⟨wr.heap.size, 0, none⟩ 1 1 [.int .u64 yn, .int .i64 ys, .int .u64 yi, .int .i64 yb, .int .i64 yt] rfl rfl (World.news_of_block (heap_alloc_new wr _)) (by simp [Value.oneCell']) (by unfold maxLen; omega) (by omega) (HBa.out _).size ?_; intro v4 w4 how4 hgr4 _)
    have hb4 : Below w2.heap.size w2 w4 := (HBa.out _).trans ((Below.refl _ _).grown hgr4 (HBa.out _).size fun g hg => (how.lt g hg).1)
    obtain ⟨a4, c4, rfl, HO4⟩ := HFin.out _ _ how4 hb4
    clear how how4 hgr4 hb4 HFin HBa cu1 hlk m0 m1 m2 m3 m4 c2
    go_wp2_with fail
    go_round
    case rel => exact ⟨k + 1, a4, c4, by omega, by go_num, rfl, HO4⟩
    case measure => simp [intOf]; omega
  · obtain rfl : k = nl := by omega
    have HE : Hid (RwM 55 wr w'.heap.size (.slice ao k co) S.L ∧ Below w'.heap.size w' wr) := by
      refine ⟨RwM.to ?_ HB2.out.size, HB2.out.trans (HO.out.2.mono HB2.out.size)⟩
      have := HO.out.1
      rw [List.take_of_length_le (by rw [HNl.out]; exact Nat.le_refl _)] at this
      unfold RwM
      rw [HNl.out]
      exact this
    clear HO HC HH HG HB2
    go_wp2
    go_ret
    exact ⟨ao, co, rfl, HE⟩
end Go.Proofs.Ytlhhkgjolilpiaa
